import Derived.Test.YtdljhggillgpfaaGreatDoorSA26
import Derived.Test.YtdljhggillgpfaaGreatDoorSA25
set_option maxRecDepth 100000
set_option maxHeartbeats 8000000
namespace Go.Proofs.YtdljhggillgpfaaGreatDoor
open Go.RowKit Go.Shelf Go.Lib
open Go.Sort (grow Holds putRow)
theorem last1_gives (k x : List UInt8) (b : Nat) (W : World) (hb : W.cell? ⟨b,0,none⟩ = some (.string (ba k))) :
  FnGives Tryz.prog 282 #[.pointer (some ⟨b,0,none⟩)] #[sv x] (.bool (x == k)) W := by
 suffices goal : Calls Tryz.prog 282 #[.string (ba x),.pointer (some ⟨b,0,none⟩)] W fun e w' => e = .returned (.bool (x == k)) ∧ w' = W from Calls.mono goal fun e w' ⟨h1,h2⟩ => ⟨h1,0,h2⟩
 go_enter Tryz.func282,Tryz.ntmps282
 go_wp2
 go_ret
 exact ⟨rfl,rfl⟩
theorem delNil_calls {w : World} (caps : Array Value) :
  Calls Tryz.prog 281 #[.slice none 0 0,.func (.func 282) #[] caps] w fun e w' => e = .returned (.slice none 0 0) ∧ w' = w := by
 have HC := hid1 (Tryz.slices_IndexFunc_empty (α := Nat) none 0 (.func (.func 282) #[] caps) w)
 go_enter Tryz.func281,Tryz.ntmps281
 go_wp2_with fail
 refine HC.out.mono ?_
 rintro e w1 ⟨rfl,rfl⟩
 clear HC
 go_wp2
 go_ret
 exact ⟨rfl,rfl⟩
theorem delKey_calls {W : World} {u : Value} {ks : List (List UInt8)} (hrow : KRow W u ks) (hl : ks.length ≤ 1000) (k : List UInt8) (b : Nat) (hb : W.cell? ⟨b,0,none⟩ = some (.string (ba k))) (hne : some b ≠ u.ownBlock) :
  Calls Tryz.prog 281 #[u,.func (.func 282) #[] #[.pointer (some ⟨b,0,none⟩)]] W fun e w' => ∃ u',e = .returned u' ∧ KRow w' u' (ks.filter fun x => !(x == k)) ∧ u'.ownBlock = u.ownBlock ∧ W.grownBy w' u.ownBlock := by
 have hbl : b < W.heap.size := lt_of_cell hb
 by_cases hu : u = .slice none 0 0
 ·subst hu
  obtain rfl : ks = [] := by
   rcases hrow.2 with ⟨_,h⟩ | ⟨g,cap,cur,h,_⟩
   ·exact List.length_eq_zero_iff.1 h
   ·cases h
  refine (delNil_calls (w := W) #[.pointer (some ⟨b,0,none⟩)]).mono ?_
  rintro e w' ⟨rfl,rfl⟩
  exact ⟨_,rfl,World.ownsRow_nil _ _ _ _,rfl,⟨rfl,rfl,rfl,Nat.le_refl _,fun _ _ _ => rfl⟩⟩
 ·obtain ⟨g,cap,rfl,-,hg,hcap,hm,-,hH⟩ := Lib.holds_of_ownsRow hrow hu
  have hbg : b ≠ g := fun e => hne (by rw [e];rfl)
  have key := Tryz.slices_DeleteFunc sv (fun _ => rfl) (fun x => x == k) 282 #[.pointer (some ⟨b,0,none⟩)] (enters_of Tryz.func282 (by kernel_rfl) rfl) [] (fun w => by kernel_rfl) g 0 cap ks.toArray W
   (fun V x hV => last1_gives k x b V ((cell_below2 hV hbl).trans hb))
   (fun n os dk x _ => by
    refine last1_gives k x b _ (Eq.trans ?_ hb)
    unfold sortWorld
    rw [Go.Sort.cell?_grow _ _ _ (by show b < (putRow _ _ _ _ _).heap.size;rw [Go.Sort.size_putRow];exact hbl),Go.Sort.cell?_putRow_other _ _ g 0 _ _ (Or.inl hbg)]
    rfl)
   hH (by simp;omega) (by simpa using hcap)
  have e0 : ks.toArray.size = ks.length := by simp
  rw [e0] at key
  refine key.mono ?_
  rintro e w' ⟨rfl,q,rfl⟩
  have hle : (ks.filter fun x => !(x == k)).length ≤ ks.length := List.length_filter_le _ _
  have h1 := Lib.ownsRow_putRow (q := q) (k := (ks.filter fun x => !(x == k)).length) (ys := (ks.filter fun x => !(x == k)) ++ List.replicate (ks.length - (ks.filter fun x => !(x == k)).length) []) hrow (by simp;omega) hle
  rw [List.take_left] at h1
  refine ⟨_,rfl,h1,rfl,⟨rfl,rfl,rfl,by rw [Go.Sort.size_putRow];exact Nat.le_refl _,fun j _ hj => ?_⟩⟩
  have : g ≠ j := fun e => hj (by rw [← e];rfl)
  simp [putRow,Go.Sort.mapBlock,Go.Sort.ahead,Array.getElem?_modify,this]
end Go.Proofs.YtdljhggillgpfaaGreatDoor
namespace Go.Proofs.YtdljhggillgpfaaGreatDoor
open Go.RowKit Go.Shelf Go.Lib
theorem CBox.stored {W w2 w4 : World} {cb eb g cap n : Nat} {u : Value} {m : Nat} {ks ks' : List (List UInt8)} {l : Cf.Ens} (h : CBox W cb eb u m ks l)
  (hb : ∀ j,j < W.heap.size → some j ≠ u.ownBlock → w4.heap[j]? = W.heap[j]?)
  (hrow : KRow w4 (.slice (some ⟨g,0,none⟩) n cap) ks') (hg : u.ownBlock = some g ∨ W.heap.size ≤ g) (e2 : w2 = w4.setCell ⟨cb,2,none⟩ (.slice (some ⟨g,0,none⟩) n cap)) :
  CBox w2 cb eb (.slice (some ⟨g,0,none⟩) n cap) m ks' l := by
 subst e2
 have hcl : cb < W.heap.size := lt_of_cell h.c0
 have hel : eb < W.heap.size := h.isMap.lt
 have bc := hb cb hcl h.ne2
 have be := hb eb hel h.ne3
 have gc : g ≠ cb := fun e => by
  rcases hg with h1 | h1
  ·exact h.ne2 (by rw [h1,e])
  ·omega
 have ge : g ≠ eb := fun e => by
  rcases hg with h1 | h1
  ·exact h.ne3 (by rw [h1,e])
  ·omega
 have hS : ∀ c,c ≠ cb → (w4.setCell ⟨cb,2,none⟩ (.slice (some ⟨g,0,none⟩) n cap)).heap[c]? = w4.heap[c]? := fun c hc => Below.heap_setCell w4 ⟨cb,2,none⟩ _ c hc
 have d2 : w4.cell? ⟨cb,2,none⟩ = some u := (World.cell?_of_block (a := ⟨cb,2,none⟩) bc).trans h.c2
 refine ⟨?_,?_,World.cell?_setCell_same' _ _ _ (by rw [d2];rfl),?_,hrow.same fun j hj => hS j ?_,(h.isMap.same be).same (hS eb h.ne1.symm),h.ne1,?_,?_⟩
 ·rw [World.cell?_setCell_other]
  ·exact (World.cell?_of_block (a := ⟨cb,0,none⟩) bc).trans h.c0
  ·simp
 ·rw [World.cell?_setCell_other]
  ·exact (World.cell?_of_block (a := ⟨cb,1,none⟩) bc).trans h.c1
  ·simp
 ·rw [World.frozen?_setCell]
  exact (World.frozen?_of_block (a := ⟨cb,2,none⟩) bc).trans h.f2
 ·intro e
  have : j = g := by simpa [Value.ownBlock] using hj
  exact gc (this.symm.trans e)
 ·intro e
  exact gc (by simpa [Value.ownBlock] using e.symm)
 ·intro e
  exact ge (by simpa [Value.ownBlock] using e.symm)
theorem makeLast_calls {W : World} {cb eb : Nat} {u : Value} {m : Nat} {ks : List (List UInt8)} {l : Cf.Ens} (h : CBox W cb eb u m ks l) (hl : ks.length ≤ 1000) (k : List UInt8) :
  Calls Tryz.prog 255 #[.pointer (some ⟨cb,0,none⟩),.string (ba k)] W fun e w' => e = .returned (.tuple #[]) ∧ Only (CBlk cb eb u) W w' ∧ ∃ u',CBox w' cb eb u' m ((ks.filter fun x => !(x == k)) ++ [k]) l ∧ ∀ j,some j = u'.ownBlock → some j = u.ownBlock ∨ W.heap.size ≤ j := by
 have g0 : Below W.heap.size W (W.alloc (.cells #[.string (ba k)] 9)) := (Below.refl _ W).alloc (Nat.le_refl _) _
 have h0 := h.below g0
 have hb0 : (W.alloc (.cells #[.string (ba k)] 9)).cell? ⟨W.heap.size,0,none⟩ = some (.string (ba k)) := by simp
 have hz0 : (W.alloc (.cells #[.string (ba k)] 9)).heap.size = W.heap.size + 1 := by simp
 have hnw : some W.heap.size ≠ u.ownBlock := fun e => by have := h.row.lt e;omega
 have HD := hid1 (delKey_calls h0.row hl k W.heap.size hb0 hnw)
 have c2 := h0.c2
 have hfl : (ks.filter fun x => !(x == k)).length ≤ ks.length := List.length_filter_le _ _
 obtain ⟨i0,hi,hz1,hz2,hz3⟩ := info_parts Tryz.infoStr
 have HH := hid1 h
 have HH0 := hid1 h0
 have hcl : cb < W.heap.size := lt_of_cell h.c0
 have hu2 := h.ne2
 have hml : (ks.filter fun x => !(x == k)).length + 1 ≤ maxLen := by unfold maxLen;omega
 clear h h0
 generalize (ks.filter fun x => !(x == k)) = fs at *
 generalize hW0 : W.alloc (.cells #[.string (ba k)] 9) = W0 at *
 go_enter Tryz.func255,Tryz.ntmps255
 go_wp2_with fail
 refine HD.out.mono ?_
 rintro e w2 ⟨u2,rfl,hk2,ho2,hg2⟩
 have hz2' := hg2.size
 have b2 := World.grownBy.cell_far hg2 ⟨W.heap.size,0,none⟩ (by show W.heap.size < _;omega) hnw
 rw [hb0] at b2
 have q2 := World.grownBy.cell_far hg2 ⟨cb,2,none⟩ (by show cb < _;omega) hu2
 rw [c2] at q2
 have f2 := World.grownBy.frozen_far hg2 ⟨cb,2,none⟩ (by show cb < _;omega) hu2
 rw [HH0.out.f2] at f2
 have HO2 := hid1 ho2
 have HG2 := hid1 hg2
 have hcl2 : cb < w2.heap.size := by omega
 clear HD hg2 ho2
 have a2 : Below w2.heap.size w2 (w2.alloc (.cells #[.string (ba k)] 9)) := (Below.refl _ w2).alloc (Nat.le_refl _) _
 have q2a := hid1 (cell_below' q2 a2)
 have f2a := hid1 ((a2.frozen (p := ⟨cb,2,none⟩) hcl2).trans f2)
 have HA2 := hid1 a2
 clear a2
 have hk3 : w2.ownsRow 0 9 1 u2 fs.length (fs.map sv) := hk2
 clear hk2
 go_wp2_with (first
  | (at_builtin;refine wpList_append_lies _ rfl _ _ 22 rfl 0 9 i0 (.string ⟨#[]⟩) 1 16 Tryz.underlying22 hi hz1 hz2 hz3 rfl (by decide) u2 fs.length (fs.map sv) rfl (hk3.alloc _) ⟨w2.heap.size,0,none⟩ 1 1 [.string (ba k)] rfl rfl (cell_one_new _ _ _) (by simp [Value.oneCell']) (by decide) hml (by omega) (by simp) _ rfl ?_;intro g cap w4 hown4 hgrow4 hlies4 hlt4;(have q4 := (World.grownBy.cell_far hgrow4 ⟨cb,2,none⟩ (by simp;omega) (by rw [HO2.out];exact hu2)).trans (q2a.out));(have f4 := (World.grownBy.frozen_far hgrow4 ⟨cb,2,none⟩ (by simp;omega) (by rw [HO2.out];exact hu2)).trans (f2a.out));(have HR := hid1 (And.intro hown4 (And.intro hgrow4 (And.intro hlies4 hlt4))));clear hown4 hgrow4 hlies4 hlt4)
  | fail)
 go_wp2
 go_end0
 obtain ⟨hown,hgrow,hlies,hlt⟩ := HR.out
 have hA2 := HA2.out
 have hG2 := HG2.out
 rw [HO2.out] at hgrow hlies
 have za := hA2.size
 have zg := hgrow.size
 have hb : ∀ j,j < W.heap.size → some j ≠ u.ownBlock → w4.heap[j]? = W.heap[j]? := fun j hj hn =>
  (hgrow.block j (by omega) hn).trans ((hA2.block j (by omega)).trans ((hG2.block j (by omega) hn).trans (g0.block j hj)))
 have hg : u.ownBlock = some g ∨ W.heap.size ≤ g := by
  rcases hlies with h1 | h1
  ·exact .inl h1
  ·exact .inr (by omega)
 have hB := HH.out.stored hb (ks' := fs ++ [k]) (by unfold KRow;rw [List.length_append,List.length_singleton,List.map_append];exact hown) hg rfl
 refine ⟨rfl,⟨hgrow.os.trans (hA2.os.trans (hG2.os.trans g0.os)),hgrow.tape.trans (hA2.tape.trans (hG2.tape.trans g0.tape)),hgrow.output.trans (hA2.output.trans (hG2.output.trans g0.output)),by simp;omega,fun j hj hs => ?_⟩,_,hB,fun j hj => ?_⟩
 ·have h1 : j ≠ cb := fun e => hs (.inl e)
  have h2 : some j ≠ u.ownBlock := fun e => hs (.inr (.inr e))
  exact (Below.heap_setCell w4 ⟨cb,2,none⟩ _ j h1).trans (hb j hj h2)
 ·obtain rfl : j = g := by simpa [Value.ownBlock] using hj
  rcases hg with h1 | h1
  ·exact .inl h1.symm
  ·exact .inr h1
end Go.Proofs.YtdljhggillgpfaaGreatDoor
namespace Go.Proofs.YtdljhggillgpfaaGreatDoor
open Go.RowKit Go.Shelf Go.Lib
theorem cNew_yes (W : World) (m : Nat) (h1 : 1 ≤ m) (h2 : m ≤ 100) :
  Calls Tryz.prog 31 #[.int .i64 m] W fun e w' => ∃ p S,e = .returned (.tuple #[.pointer (some p),.nilIface]) ∧ Below W.heap.size W w' ∧ CAt S w' (.pointer (some p)) m [] ∧ ∀ k,S k → W.heap.size ≤ k := by
 have z1 : (1 : Int) ≤ (m : Int) := by omega
 have hmm := @run_makeMap Tryz.prog
 go_enter Tryz.func31,Tryz.ntmps31
 go_wp2
 go_ret2
 clear hmm
 have hz : (W.alloc (.map #[] 0)).heap.size = W.heap.size + 1 := by simp
 have g1 : Below W.heap.size W (W.alloc (.map #[] 0)) := (Below.refl _ W).alloc (Nat.le_refl _) _
 have hm0 := CMap.made W
 generalize W.alloc (.map #[] 0) = W1 at *
 have g2 : Below W1.heap.size W1 (W1.alloc (.cells #[.int .i64 m,.map (some W.heap.size),.slice none 0 0] 101)) := (Below.refl _ W1).alloc (Nat.le_refl _) _
 refine ⟨⟨W.heap.size + 1,0,none⟩,CBlk (W.heap.size + 1) W.heap.size (.slice none 0 0),rfl,g1.trans (g2.mono (by omega)),⟨_,_,_,rfl,fun j => Iff.rfl,⟨?_,?_,?_,?_,World.ownsRow_nil _ _ _ _,hm0.same (g2.block _ (by omega)),by omega,by simp [Value.ownBlock],by simp [Value.ownBlock]⟩,fun e he => by simp at he⟩,?_⟩
 ·rw [← hz];simp
 ·rw [← hz];simp
 ·rw [← hz];simp
 ·rw [← hz];simp
 ·rintro k (rfl | rfl | hk)
  ·omega
  ·omega
  ·simp [Value.ownBlock] at hk
theorem cNew_no {es : Nat → Addr} (W : World) (m : Int) (hm : m < 1 ∨ 100 < m) (hE : W.cell? ⟨0,0,none⟩ = some (erOf es 2)) :
  Calls Tryz.prog 31 #[.int .i64 m] W fun e w' => e = .returned (.tuple #[.pointer none,erOf es 2]) ∧ Below W.heap.size W w' := by
 generalize erOf es 2 = er at *
 rcases hm with hm | hm
 ·go_enter Tryz.func31,Tryz.ntmps31
  go_wp2
  go_region
  go_wp2
  go_ret2
  exact ⟨rfl,by first | exact Below.refl _ _ | exact below_draws (Below.refl _ _) _⟩
 ·have z1 : (1 : Int) ≤ m := by omega
  go_enter Tryz.func31,Tryz.ntmps31
  go_wp2
  go_region
  go_wp2
  go_ret2
  exact ⟨rfl,by first | exact Below.refl _ _ | exact below_draws (Below.refl _ _) _⟩
end Go.Proofs.YtdljhggillgpfaaGreatDoor
namespace Go.Proofs.YtdljhggillgpfaaGreatDoor
open Go.RowKit Go.Shelf Go.Lib
theorem CBlk.step {cb eb : Nat} {u u' : Value} {n : Nat} (h : ∀ j,some j = u'.ownBlock → some j = u.ownBlock ∨ n ≤ j) : ∀ j,CBlk cb eb u' j → CBlk cb eb u j ∨ n ≤ j := by
 rintro j (h1 | h1 | h1)
 ·exact .inl (.inl h1)
 ·exact .inl (.inr (.inl h1))
 ·rcases h j h1 with h2 | h2
  ·exact .inl (.inr (.inr h2))
  ·exact .inr h2
theorem cGet_calls {S : Nat → Prop} {W : World} {v : Value} {m : Nat} {l : Cf.Ens} (h : CAt S W v m l) (hO : Cf.Ok m l) (hm : m ≤ 100) (k : List UInt8) (hk : k.length ≤ 100000) :
  Calls Tryz.prog 232 #[v,.string (ba k)] W fun e w' => e = .returned (.tuple #[.string (ba ((Cf.find l k).getD [])),.bool (Cf.find l k).isSome]) ∧ Only S W w' ∧ ∃ S',CAt S' w' v m (Cf.get m l k) ∧ ∀ j,S' j → S j ∨ W.heap.size ≤ j := by
 obtain ⟨cb,eb,u,rfl,hS,h,hsh⟩ := h
 have hlk := look_cache h.isMap k (by omega)
 have c1 := h.c1
 have hl := hO.few
 have HH := hid1 h
 have HS := hid1 hS
 have HO := hid1 hO
 have hlt := h.lt
 clear hS hO
 cases hf : Cf.find l k with
 | none =>
  have HF := hid1 hf
  rw [hf] at hlk
  simp only [Option.getD_none,Option.isSome_none] at hlk ⊢
  clear h hlt hf
  go_enter Tryz.func232,Tryz.ntmps232
  go_wp2
  go_ret2
  have g0 : Below W.heap.size W (W.alloc (.cells #[.string (ba [])] 327)) := (Below.refl _ W).alloc (Nat.le_refl _) _
  refine ⟨rfl,Only.of g0,S,?_,fun j hj => .inl hj⟩
  have e : Cf.get m l k = l := by unfold Cf.get;rw [HF.out]
  rw [e]
  exact ⟨cb,eb,u,rfl,HS.out,HH.out.below g0,hsh⟩
 | some b =>
  have HF := hid1 hf
  rw [hf] at hlk
  simp only [Option.getD_some,Option.isSome_some] at hlk ⊢
  have g0 : Below W.heap.size W (W.alloc (.cells #[.string (ba b)] 327)) := (Below.refl _ W).alloc (Nat.le_refl _) _
  have hb0 : (W.alloc (.cells #[.string (ba b)] 327)).cell? ⟨W.heap.size,0,none⟩ = some (.string (ba b)) := by simp
  have hz0 : (W.alloc (.cells #[.string (ba b)] 327)).heap.size = W.heap.size + 1 := by simp
  have HL := hid1 (makeLast_calls (h.below g0) (by rw [Cf.keys_len];omega) k)
  have hnb : ¬ CBlk cb eb u W.heap.size := fun x => by have := hlt _ x;omega
  have HN := hid1 hnb
  have HG0 := hid1 g0
  clear h hlt hf g0 hnb
  generalize hW0 : W.alloc (.cells #[.string (ba b)] 327) = W0 at *
  go_enter Tryz.func232,Tryz.ntmps232
  go_wp2_with fail
  refine HL.out.mono ?_
  rintro e w1 ⟨rfl,hon,u',hb',hu'⟩
  have hb1 := hon.cell hb0 HN.out
  have HR := hid1 (And.intro hon (And.intro hb' hu'))
  clear HL hon hb' hu'
  go_wp2
  go_ret2
  obtain ⟨hon,hb',hu'⟩ := HR.out
  have g0 := HG0.out
  obtain ⟨hg,hp⟩ := Cf.get_hit HO.out HF.out
  refine ⟨rfl,?_,CBlk cb eb u',⟨cb,eb,u',rfl,fun j => Iff.rfl,?_,fun e he => hsh e (hp.mem_iff.1 he)⟩,?_⟩
  ·have h1 : Only S W W0 := Only.of g0
   refine h1.trans hon fun j hj => .inl ((HS.out j).2 hj)
  ·have hmp := hb'.isMap
   have ek : Cf.keys (Cf.get m l k) = (Cf.keys l).filter (fun x => !(x == k)) ++ [k] := by
    rw [hg]
    unfold Cf.keys
    rw [List.map_append]
    show Cf.keys (Cf.rm l k) ++ _ = _
    rw [Cf.keys_rm]
    rfl
   rw [ek]
   refine ⟨hb'.c0,hb'.c1,hb'.c2,hb'.f2,hb'.row,hmp.perm (fun p => ?_) hp.length_eq,hb'.ne1,hb'.ne2,hb'.ne3⟩
   rw [hg,Cf.find_laid]
   by_cases e : p = k
   ·rw [if_pos e,e,HF.out]
   ·rw [if_neg e]
  ·intro j hj
   rcases CBlk.step hu' j hj with h1 | h1
   ·exact .inl ((HS.out j).2 h1)
   ·exact .inr (by omega)
end Go.Proofs.YtdljhggillgpfaaGreatDoor
namespace Go.Proofs.YtdljhggillgpfaaGreatDoor
open Go.RowKit Go.Shelf Go.Lib Go.Maps
open Go.Sort (putRow)
theorem CBox.turned {W w1 : World} {cb eb : Nat} {u : Value} {m : Nat} {ks : List (List UInt8)} {l l' : Cf.Ens} (h : CBox W cb eb u m ks l) (ht : W.mapTurned w1 eb) (hm : CMap w1 eb l') : CBox w1 cb eb u m ks l' := by
 have hb : ∀ j,j < W.heap.size → j ≠ eb → w1.heap[j]? = W.heap[j]? := fun j hj hn => ht.grown.block j hj (by simpa using hn)
 have bc := hb cb (lt_of_cell h.c0) h.ne1
 exact ⟨(World.cell?_of_block (a := ⟨cb,0,none⟩) bc).trans h.c0,(World.cell?_of_block (a := ⟨cb,1,none⟩) bc).trans h.c1,(World.cell?_of_block (a := ⟨cb,2,none⟩) bc).trans h.c2,(World.frozen?_of_block (a := ⟨cb,2,none⟩) bc).trans h.f2,h.row.same (fun j hj => hb j (h.row.lt hj) fun e => h.ne3 (e ▸ hj)),hm,h.ne1,h.ne2,h.ne3⟩
theorem Only.turned {S : Nat → Prop} {W w1 : World} {eb : Nat} (ht : W.mapTurned w1 eb) (hS : S eb) : Only S W w1 := by
 refine ⟨ht.grown.os,ht.grown.tape,ht.grown.output,ht.grown.size,fun j hj hs => ht.grown.block j hj fun e => hs ?_⟩
 have : j = eb := by simpa using e
 rw [this]
 exact hS
theorem CBox.put {W : World} {cb eb : Nat} {u : Value} {m : Nat} {ks : List (List UInt8)} {l : Cf.Ens} (h : CBox W cb eb u m ks l) (ho : (Cf.keys l).Nodup) (hl : l.length ≤ 1000) (k b : List UInt8) (hk : k.length ≤ 100000) :
  ∃ w1,(Instr.mapUpdate 99 (.map (some eb)) (.string (ba k)) (.agg #[.string (ba b)])).run Tryz.prog W = .ok () w1 ∧ CBox w1 cb eb u m ks (Cf.rm l k ++ [(k,b)]) ∧ Only (CBlk cb eb u) W w1 := by
 obtain ⟨D,h1,h2,h3,h4⟩ := h.isMap
 obtain ⟨w1,hr,ho1,ht⟩ := h1.store (t := 99) (e := 327) claw Tryz.underlying99 (by unfold maxLen;omega) (ckey k (by omega)) (centElem_mk b)
 exact ⟨w1,hr,h.turned ht (CMap.laid ho (h1.tidy claw) ho1 h2 h3 h4),Only.turned ht (.inr (.inl rfl))⟩
theorem CBox.drop {W : World} {cb eb : Nat} {u : Value} {m : Nat} {ks : List (List UInt8)} {e : Cf.En} {l : Cf.Ens} (h : CBox W cb eb u m ks (e :: l)) (ho : (Cf.keys (e :: l)).Nodup) (hk : e.1.length ≤ 100000) (ty : TypeId) :
  ∃ w1,(Builtin.delete_ #[99,9] ty #[.map (some eb),.string (ba e.1)]).run Tryz.prog W = .ok (.tuple #[]) w1 ∧ CBox w1 cb eb u m ks l ∧ Only (CBlk cb eb u) W w1 := by
 obtain ⟨D,h1,h2,h3,h4⟩ := h.isMap
 obtain ⟨w1,hr,ho1,ht⟩ := h1.drop (t := 99) (e := 327) claw Tryz.underlying99 (ckey e.1 (by omega)) ty
 exact ⟨w1,hr,h.turned ht (CMap.cut ho (h1.tidy claw) ho1 h2 h3 h4),Only.turned ht (.inr (.inl rfl))⟩
theorem delFirst_calls {W : World} {g cap : Nat} {x : List UInt8} {ks : List (List UInt8)} (hrow : KRow W (.slice (some ⟨g,0,none⟩) (ks.length + 1) cap) (x :: ks)) :
  Calls Tryz.prog 256 #[.slice (some ⟨g,0,none⟩) (ks.length + 1) cap,.int .i64 0,.int .i64 1] W fun e w' => e = .returned (.slice (some ⟨g,0,none⟩) ks.length cap) ∧ KRow w' (.slice (some ⟨g,0,none⟩) ks.length cap) ks ∧ W.grownBy w' (some g) := by
 obtain ⟨g',cap',e,-,hg,hcap,hm,-,hH⟩ := Lib.holds_of_ownsRow hrow (by simp)
 cases e
 have key := Tryz.slices_Delete_string g 0 cap 0 1 (x :: ks) W hH hcap (by unfold maxLen at hm;omega) (by omega) (by simp)
 refine key.mono ?_
 rintro e w' ⟨rfl,q,rfl⟩
 have h1 := Lib.ownsRow_putRow (q := q) (k := ks.length) (ys := (x :: ks).take 0 ++ (x :: ks).drop 1 ++ List.replicate (1 - 0) []) hrow (by simp) (by simp)
 have e1 : ((x :: ks).take 0 ++ (x :: ks).drop 1 ++ List.replicate (1 - 0) []).take ks.length = ks := by simp
 rw [e1] at h1
 refine ⟨rfl,h1,⟨rfl,rfl,rfl,by rw [Go.Sort.size_putRow];exact Nat.le_refl _,fun j _ hj => ?_⟩⟩
 have : g ≠ j := fun e => hj (by rw [e])
 simp [putRow,Go.Sort.mapBlock,Go.Sort.ahead,Array.getElem?_modify,this]
theorem cPut_calls {S : Nat → Prop} {W : World} {v : Value} {m : Nat} {l : Cf.Ens} (h : CAt S W v m l) (hO : Cf.Ok m l) (hm1 : 1 ≤ m) (hm : m ≤ 100) (k b : List UInt8) (hk : k.length ≤ 100000) :
  Calls Tryz.prog 233 #[v,.string (ba k),.string (ba b)] W fun e w' => e = .returned (.tuple #[]) ∧ Only S W w' ∧ ∃ S',CAt S' w' v m (Cf.put m l k b) ∧ ∀ j,S' j → S j ∨ W.heap.size ≤ j := by
 obtain ⟨cb,eb,u,rfl,hS,h,hks⟩ := h
 have c0 := h.c0
 have c1 := h.c1
 have z0 : ((m : Int) == 0) = false := by simp;omega
 have hl := hO.few
 obtain ⟨w1,hst,hB1,hon1⟩ := h.put hO.once (by omega) k b hk
 have HL := hid1 (makeLast_calls hB1 (by rw [Cf.keys_len];omega) k)
 have HS := hid1 hS
 have HPut : Hid (Cf.put m l k b = if m < (Cf.rm l k ++ [(k,b)]).length then (Cf.rm l k ++ [(k,b)]).drop 1 else Cf.rm l k ++ [(k,b)]) := hid1 rfl
 have hks' : (Cf.keys l).filter (fun x => !(x == k)) ++ [k] = Cf.keys (Cf.rm l k ++ [(k,b)]) := by
  unfold Cf.keys
  rw [List.map_append]
  show _ = Cf.keys (Cf.rm l k) ++ _
  rw [Cf.keys_rm]
  rfl
 rw [hks'] at HL
 have HN := hid1 (Cf.put_once hO.once k b)
 have HK := hid1 fun (e : Cf.En) (he : e ∈ Cf.rm l k ++ [(k,b)]) => (show e.1.length ≤ 100000 by
  rcases List.mem_append.1 he with h1 | h1
  ·exact hks _ (Cf.mem_rm.1 h1).1
  ·rw [List.mem_singleton.1 h1];exact hk)
 have hrl := Cf.rm_le l k
 have HLen : Hid ((Cf.rm l k ++ [(k,b)]).length ≤ 101) := hid1 (by simp;omega)
 have HO1 := hid1 hon1
 have zs1 := hon1.size
 generalize Cf.rm l k ++ [(k,b)] = L at *
 go_enter Tryz.func233,Tryz.ntmps233
 go_wp2_with fail
 refine HL.out.mono ?_
 rintro e w2 ⟨rfl,hon2,u2,hB2,hu2⟩
 have HR2 := hid1 (And.intro hon2 (And.intro hB2 hu2))
 have HO2 := hid1 (HO1.out.trans hon2 fun j hj => .inl hj)
 have q0 := hB2.c0
 have q2 := hB2.c2
 obtain ⟨g,cap,rfl⟩ : ∃ p c,u2 = .slice p L.length c := by
  have hr := hB2.row
  unfold KRow at hr
  rw [Cf.keys_len] at hr
  rcases hr.2 with ⟨rfl,h0⟩ | ⟨g,cap,cur,rfl,_⟩
  ·exact ⟨none,0,by rw [h0]⟩
  ·exact ⟨_,_,rfl⟩
 have zl := HLen.out
 by_cases hbig : m < L.length
 ·rw [if_pos hbig] at HPut
  cases L with
  | nil => simp at hbig
  | cons e L =>
  rw [List.length_cons] at hbig zl q2 hB2 HR2
  have zb : (m : Int) < (L.length : Int) + 1 := by omega
  have hr2 := hB2.row
  obtain ⟨g,rfl⟩ : ∃ g',g = some ⟨g',0,none⟩ := by
   rcases hr2.2 with ⟨h0,_⟩ | ⟨g',cap',cur,h0,_⟩
   ·cases h0
   ·simp only [Value.slice.injEq] at h0
    exact ⟨_,h0.1⟩
  have hH := (Lib.holds_of_ownsRow hr2 (by simp))
  obtain ⟨g',cap',e0,-,hg,hcap,hmx,-,hH⟩ := hH
  simp only [Value.slice.injEq,Option.some.injEq,Addr.mk.injEq,and_true] at e0
  obtain ⟨rfl,-,rfl⟩ := e0
  have d0 : w2.cell? ⟨g,0,none⟩ = some (.string (ba e.1)) := (hH 0 (by simp [Cf.keys])).1
  have hB3 : CBox w2.drew cb eb (.slice (some ⟨g,0,none⟩) (L.length + 1) cap) m (Cf.keys (e :: L)) (e :: L) := hB2.same fun _ _ => rfl
  have hB4 : CBox w2.drew.drew cb eb (.slice (some ⟨g,0,none⟩) (L.length + 1) cap) m (Cf.keys (e :: L)) (e :: L) := hB2.same fun _ _ => rfl
  obtain ⟨w5,hdel,hB5,hon5⟩ := hB4.drop HN.out (HK.out e (by simp)) 0
  have HB5 := hid1 hB5
  have HO5 := hid1 hon5
  have r1 := hB3.c1
  have r2 := hB3.c2
  have d1 : w2.drew.cell? ⟨g,0,none⟩ = some (.string (ba e.1)) := d0
  have HO3 : Hid (Only (CBlk cb eb u) W w2.drew) := hid1 ⟨HO2.out.os,HO2.out.tape,HO2.out.output,HO2.out.size,HO2.out.block⟩
  have s2 := hB5.c2
  have fz := hB5.f2
  have hr5 : KRow w5 (.slice (some ⟨g,0,none⟩) ((Cf.keys L).length + 1) cap) (e.1 :: Cf.keys L) := by
   rw [Cf.keys_len]
   exact hB5.row
  have HDl := delFirst_calls hr5
  rw [Cf.keys_len] at HDl
  have HDe := hid1 HDl
  have hgc : some cb ≠ some g := hB5.ne2
  have hcl5 : cb < w5.heap.size := lt_of_cell hB5.c0
  go_wp2
  go_region
  generalize w2.drew = w3 at *
  go_wp2
  go_region
  go_wp2_with fail
  refine HDe.out.mono ?_
  rintro e6 w6 ⟨rfl,hk6,hg6⟩
  have t2 := (World.grownBy.cell_far hg6 ⟨cb,2,none⟩ hcl5 hgc).trans s2
  have ft := (World.grownBy.frozen_far hg6 ⟨cb,2,none⟩ hcl5 hgc).trans fz
  have HK6 := hid1 (And.intro hk6 hg6)
  go_wp2
  go_end0
  obtain ⟨hk6,hg6⟩ := HK6.out
  obtain ⟨-,-,hu2⟩ := HR2.out
  have hB6 := HB5.out.stored (ks' := Cf.keys L) (w2 := w6.setCell ⟨cb,2,none⟩ (.slice (some ⟨g,0,none⟩) L.length cap)) (fun j hj hn => hg6.block j hj hn) hk6 (.inl rfl) rfl
  have hO5 := HO5.out
  have hO3 := HO3.out
  have z5 := hO5.size
  have z3 := hO3.size
  have z6 := hg6.size
  have zd : w3.drew.heap.size = w3.heap.size := rfl
  have hS2 : ∀ j,CBlk cb eb (.slice (some ⟨g,0,none⟩) (L.length + 1) cap) j → S j ∨ W.heap.size ≤ j := fun j hj => by
   rcases CBlk.step hu2 j hj with h1 | h1
   ·exact .inl ((HS.out j).2 h1)
   ·exact .inr (by omega)
  refine ⟨rfl,⟨?_,?_,?_,by simp;omega,fun j hj hs => ?_⟩,CBlk cb eb (.slice (some ⟨g,0,none⟩) L.length cap),⟨cb,eb,.slice (some ⟨g,0,none⟩) L.length cap,rfl,fun j => Iff.rfl,?_,?_⟩,?_⟩
  ·exact hg6.os.trans (hO5.os.trans hO3.os)
  ·exact hg6.tape.trans (hO5.tape.trans hO3.tape)
  ·exact hg6.output.trans (hO5.output.trans hO3.output)
  ·have h1 : ¬ CBlk cb eb (.slice (some ⟨g,0,none⟩) (L.length + 1) cap) j := fun x => by
    rcases hS2 j x with h2 | h2
    ·exact hs h2
    ·omega
   have h2 : j ≠ cb := fun x => h1 (.inl x)
   have h3 : some j ≠ some g := fun x => h1 (.inr (.inr x))
   refine (Below.heap_setCell w6 ⟨cb,2,none⟩ _ j h2).trans ((hg6.block j (by omega) h3).trans ((hO5.block j (by omega) h1).trans ?_))
   exact hO3.block j hj fun x => hs ((HS.out j).2 x)
  ·rw [HPut.out]
   exact hB6
  ·rw [HPut.out]
   exact fun x hx => HK.out x (List.mem_cons_of_mem _ hx)
  ·exact fun j hj => hS2 j hj
 ·rw [if_neg hbig] at HPut
  have zb : (L.length : Int) ≤ (m : Int) := by omega
  go_wp2
  go_region
  go_wp2
  go_end0
  obtain ⟨hon2,hB2,hu2⟩ := HR2.out
  refine ⟨rfl,⟨HO2.out.os,HO2.out.tape,HO2.out.output,HO2.out.size,fun j hj hs => HO2.out.block j hj fun x => hs ((HS.out j).2 x)⟩,CBlk cb eb (.slice g L.length cap),⟨cb,eb,.slice g L.length cap,rfl,fun j => Iff.rfl,?_,?_⟩,?_⟩
  ·rw [HPut.out]
   exact hB2.same fun _ _ => rfl
  ·rw [HPut.out]
   exact HK.out
  ·intro j hj
   rcases CBlk.step hu2 j hj with h1 | h1
   ·exact .inl ((HS.out j).2 h1)
   ·exact .inr (by omega)
theorem caches0 (es : Nat → Addr) : Caches0 es CAt where
 same := fun S W W' v m l h _ hb => by
  obtain ⟨cb,eb,u,e,hS,h,hk⟩ := h
  exact ⟨cb,eb,u,e,hS,h.same fun j hj => hb j ((hS j).2 hj),hk⟩
 lt := fun S W v m l h k hk => by
  obtain ⟨cb,eb,u,e,hS,h,-⟩ := h
  exact h.lt k ((hS k).1 hk)
 make := cNew_yes
 no := fun W m _ _ hm hE => cNew_no W m hm hE
 put := fun S W p m l k b h h1 h2 hO hk _ => cPut_calls h hO h1 h2 k b hk
 get := fun S W p m l k h _ h2 hO hk => cGet_calls h hO h2 k hk
end Go.Proofs.YtdljhggillgpfaaGreatDoor
namespace Go.Proofs.YtdljhggillgpfaaGreatDoor
open Go.RowKit Go.Shelf Go.Lib Go.Maps
theorem cGet_nil (k : List UInt8) (W : World) : Calls Tryz.prog 232 #[.pointer none,.string (ba k)] W fun e w' => e = .returned (.tuple #[.string (ba []),.bool false]) ∧ w' = W := by
 go_enter Tryz.func232,Tryz.ntmps232
 go_wp2
 go_ret2
 exact ⟨rfl,rfl⟩
theorem cPut_nil (k b : List UInt8) (W : World) : Calls Tryz.prog 233 #[.pointer none,.string (ba k),.string (ba b)] W fun e w' => e = .returned (.tuple #[]) ∧ w' = W := by
 go_enter Tryz.func233,Tryz.ntmps233
 go_wp2
 exact bodyPost_ret (results_none rfl _ _ _) rfl ⟨rfl,rfl⟩
theorem caGet {es : Nat → Addr} {SC : Nat → Prop} {W : World} {cv : Value} {c : Bf.Ca} (h : CaAt CAt SC W cv c) (hf : Bf.CFit c) (k : List UInt8) (hk : k.length ≤ 100000) :
  Calls Tryz.prog 232 #[cv,.string (ba k)] W fun e w' => e = .returned (.tuple #[.string (ba ((Bf.cfind c k).getD [])),.bool (Bf.cfind c k).isSome]) ∧ Only SC W w' ∧ ∃ SC',CaAt CAt SC' w' cv (Bf.cget c k) ∧ ∀ j,SC' j → SC j ∨ W.heap.size ≤ j := by
 cases c with
 | none =>
  obtain ⟨rfl,hn⟩ := h
  refine (cGet_nil k W).mono ?_
  rintro e w' ⟨rfl,rfl⟩
  exact ⟨rfl,Only.refl _ _,SC,⟨rfl,hn⟩,fun j hj => .inl hj⟩
 | some x =>
  obtain ⟨m,l⟩ := x
  obtain ⟨⟨p,rfl⟩,hA⟩ := h
  obtain ⟨h1,h2,h3,_⟩ := hf
  refine ((caches0 es).get SC W p m l k hA h1 h2 h3 hk).mono ?_
  rintro e w' ⟨rfl,ho,SC',hA',hS⟩
  exact ⟨rfl,ho,SC',⟨⟨p,rfl⟩,hA'⟩,hS⟩
theorem caPut {es : Nat → Addr} {SC : Nat → Prop} {W : World} {cv : Value} {c : Bf.Ca} (h : CaAt CAt SC W cv c) (hf : Bf.CFit c) (k b : List UInt8) (hk : k.length ≤ 100000) (hb : b.length ≤ 100000) :
  Calls Tryz.prog 233 #[cv,.string (ba k),.string (ba b)] W fun e w' => e = .returned (.tuple #[]) ∧ Only SC W w' ∧ ∃ SC',CaAt CAt SC' w' cv (Bf.cput c k b) ∧ ∀ j,SC' j → SC j ∨ W.heap.size ≤ j := by
 cases c with
 | none =>
  obtain ⟨rfl,hn⟩ := h
  refine (cPut_nil k b W).mono ?_
  rintro e w' ⟨rfl,rfl⟩
  exact ⟨rfl,Only.refl _ _,SC,⟨rfl,hn⟩,fun j hj => .inl hj⟩
 | some x =>
  obtain ⟨m,l⟩ := x
  obtain ⟨⟨p,rfl⟩,hA⟩ := h
  obtain ⟨h1,h2,h3,_⟩ := hf
  refine ((caches0 es).put SC W p m l k b hA h1 h2 h3 hk hb).mono ?_
  rintro e w' ⟨rfl,ho,SC',hA',hS⟩
  exact ⟨rfl,ho,SC',⟨⟨p,rfl⟩,hA'⟩,hS⟩
theorem CaAt.ptr {SC : Nat → Prop} {W : World} {cv : Value} {c : Bf.Ca} (h : CaAt CAt SC W cv c) : ∃ o,cv = .pointer o := by
 cases c with
 | none => exact ⟨none,h.1⟩
 | some x =>
  obtain ⟨⟨p,rfl⟩,_⟩ := h
  exact ⟨_,rfl⟩
theorem CaAt.same {SC : Nat → Prop} {W W' : World} {cv : Value} {c : Bf.Ca} (h : CaAt CAt SC W cv c) (hz : W.heap.size ≤ W'.heap.size) (hb : ∀ k,SC k → W'.heap[k]? = W.heap[k]?) : CaAt CAt SC W' cv c := by
 cases c with
 | none => exact h
 | some x => exact ⟨h.1,(caches0 (fun _ => default)).same _ _ _ _ _ _ h.2 hz hb⟩
theorem CaAt.lt {SC : Nat → Prop} {W : World} {cv : Value} {c : Bf.Ca} (h : CaAt CAt SC W cv c) : ∀ k,SC k → k < W.heap.size := by
 cases c with
 | none => exact fun k hk => absurd hk (h.2 k)
 | some x => exact (caches0 (fun _ => default)).lt _ _ _ _ _ h.2
theorem CaAt.below {SC : Nat → Prop} {W W' : World} {cv : Value} {c : Bf.Ca} (h : CaAt CAt SC W cv c) (hb : Below W.heap.size W W') : CaAt CAt SC W' cv c := h.same hb.size fun k hk => hb.block k (h.lt k hk)
theorem cget_none {c : Bf.Ca} {k : List UInt8} (h : Bf.cfind c k = none) : Bf.cget c k = c := by
 cases c with
 | none => rfl
 | some x =>
  obtain ⟨m,l⟩ := x
  have h' : Cf.find l k = none := h
  show some (m,Cf.get m l k) = some (m,l)
  unfold Cf.get
  rw [h']
def RunPost (es : Nat → Addr) (L : Lay) (d d' : Bf.Bd) (c' : Bf.Ca) (SC : Nat → Prop) (W : World) (cv : Value) (w' : World) : Prop :=
 Steps w' es d.dom L d.rule (insOf d) d'.st ∧ Only (fun j => PBlk d.dom L j ∨ SC j) W w' ∧ ∃ SC',CaAt CAt SC' w' cv c' ∧ ∀ j,SC' j → SC j ∨ W.heap.size ≤ j
theorem key_le (kind word : List UInt8) (xs : List (List UInt8)) (h1 : kind.length ≤ 200) (h2 : word.length ≤ 200) (h3 : xs.length ≤ 12) (h4 : ∀ x ∈ xs,x.length ≤ 2000) : (Kp.key kind word xs).length ≤ 100000 := by
 have hp : ∀ s : List UInt8,s.length ≤ 2000 → (Kp.piece s).length ≤ 2022 := fun s hs => by
  have := digits_len2 s.length (by omega)
  unfold Kp.piece
  simp
  omega
 have hf : ∀ l : List (List UInt8),(∀ x ∈ l,x.length ≤ 2000) → (l.flatMap Kp.piece).length ≤ l.length * 2022 := fun l => by
  induction l with
  | nil => intro _;simp
  | cons x r ih =>
   intro h
   have a := ih fun y hy => h y (List.mem_cons_of_mem _ hy)
   have b := hp x (h x (by simp))
   rw [List.flatMap_cons,List.length_append,List.length_cons]
   omega
 have a := hp kind (by omega)
 have b := hp word (by omega)
 have c := hf xs h4
 unfold Kp.key
 rw [List.length_append,List.length_append]
 omega
end Go.Proofs.YtdljhggillgpfaaGreatDoor
