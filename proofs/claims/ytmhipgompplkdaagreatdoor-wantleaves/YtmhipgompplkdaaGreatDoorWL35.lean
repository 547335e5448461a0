import Derived.Test.YtmhipgompplkdaaGreatDoorWL22
import Derived.Test.YtmhipgompplkdaaGreatDoorWL34
import Derived.Shelf.GgClosure.Gives
import Derived.Deep.AppendLies
import Derived.Test.YtmhipgompplkdaaGreatDoorWL10
namespace Go.Proofs.YtmhipgompplkdaaGreatDoor
open Go.RowKit Go.Shelf Go.Lib
open Go.Sort (grow Holds putRow)
set_option maxRecDepth 100000 in
theorem last1_gives (k x : List UInt8) (b : Nat) (W : World) (hb : W.cell? ⟨b, 0, none⟩ = some (.string (ba k))) :
    FnGives Tryz.prog 296 #[.pointer (some ⟨b, 0, none⟩)] #[sv x] (.bool (x == k)) W := by
  suffices goal : Calls Tryz.prog 296 #[.string (ba x), .pointer (some ⟨b, 0, none⟩)] W fun e w' => e = .returned (.bool (x == k)) ∧ w' = W from Calls.mono goal fun e w' ⟨h1, h2⟩ => ⟨h1, 0, h2⟩
  go_enter Tryz.func296, Tryz.ntmps296
  go_wp2
  go_ret
  exact ⟨rfl, rfl⟩
set_option maxRecDepth 100000 in
set_option maxHeartbeats 4000000 in
theorem delNil_calls {w : World} (caps : Array Value) :
    Calls Tryz.prog 279 #[.slice none 0 0, .func (.func 296) #[] caps] w fun e w' => e = .returned (.slice none 0 0) ∧ w' = w := by
  have HC := hid1 (Tryz.slices_IndexFunc_empty (α := Nat) none 0 (.func (.func 296) #[] caps) w)
  go_enter Tryz.func279, Tryz.ntmps279
  go_wp2_with fail
  refine HC.out.mono ?_
  rintro e w1 ⟨rfl, rfl⟩
  clear HC
  go_wp2
  go_ret
  exact ⟨rfl, rfl⟩
set_option maxRecDepth 100000 in
set_option maxHeartbeats 4000000 in
theorem delKey_calls {W : World} {u : Value} {ks : List (List UInt8)} (hrow : KRow W u ks) (hl : ks.length ≤ 1000) (k : List UInt8) (b : Nat) (hb : W.cell? ⟨b, 0, none⟩ = some (.string (ba k))) (hne : some b ≠ u.ownBlock) :
    Calls Tryz.prog 279 #[u, .func (.func 296) #[] #[.pointer (some ⟨b, 0, none⟩)]] W fun e w' => ∃ u', e = .returned u' ∧ KRow w' u' (ks.filter fun x => !(x == k)) ∧ u'.ownBlock = u.ownBlock ∧ W.grownBy w' u.ownBlock := by
  have hbl : b < W.heap.size := lt_of_cell hb
  by_cases hu : u = .slice none 0 0
  · subst hu
    obtain rfl : ks = [] := by
      rcases hrow.2 with ⟨_, h⟩ | ⟨g, cap, cur, h, _⟩
      · exact List.length_eq_zero_iff.1 h
      · cases h
    refine (delNil_calls (w := W) #[.pointer (some ⟨b, 0, none⟩)]).mono ?_
    rintro e w' ⟨rfl, rfl⟩
    exact ⟨_, rfl, World.ownsRow_nil _ _ _ _, rfl, ⟨rfl, rfl, rfl, Nat.le_refl _, fun _ _ _ => rfl⟩⟩
  · obtain ⟨g, cap, rfl, -, hg, hcap, hm, -, hH⟩ := Lib.holds_of_ownsRow hrow hu
    have hbg : b ≠ g := fun e => hne (by rw [e]; rfl)
    have key := Tryz.slices_DeleteFunc sv (fun _ => rfl) (fun x => x == k) 296 #[.pointer (some ⟨b, 0, none⟩)] (enters_of Tryz.func296 (by kernel_rfl) rfl) [] (fun w => by kernel_rfl) g 0 cap ks.toArray W
      (fun V x hV => last1_gives k x b V ((cell_below2 hV hbl).trans hb))
      (fun n os dk x _ => by
        refine last1_gives k x b _ (Eq.trans ?_ hb)
        unfold sortWorld
        rw [Go.Sort.cell?_grow _ _ _ (by show b < (putRow _ _ _ _ _).heap.size; rw [Go.Sort.size_putRow]; exact hbl), Go.Sort.cell?_putRow_other _ _ g 0 _ _ (Or.inl hbg)]
        rfl)
      hH (by simp; omega) (by simpa using hcap)
    have e0 : ks.toArray.size = ks.length := by simp
    rw [e0] at key
    refine key.mono ?_
    rintro e w' ⟨rfl, q, rfl⟩
    have hle : (ks.filter fun x => !(x == k)).length ≤ ks.length := List.length_filter_le _ _
    have h1 := Lib.ownsRow_putRow (q := q) (k := (ks.filter fun x => !(x == k)).length) (ys := (ks.filter fun x => !(x == k)) ++ List.replicate (ks.length - (ks.filter fun x => !(x == k)).length) []) hrow (by simp; omega) hle
    rw [List.take_left] at h1
    refine ⟨_, rfl, h1, rfl, ⟨rfl, rfl, rfl, by rw [Go.Sort.size_putRow]; exact Nat.le_refl _, fun j _ hj => ?_⟩⟩
    have : g ≠ j := fun e => hj (by rw [← e]; rfl)
    simp [putRow, Go.Sort.mapBlock, Go.Sort.ahead, Array.getElem?_modify, this]
end Go.Proofs.YtmhipgompplkdaaGreatDoor
namespace Go.Proofs.YtmhipgompplkdaaGreatDoor
open Go.RowKit Go.Shelf Go.Lib
theorem CBox.stored {W w2 w4 : World} {cb eb g cap n : Nat} {u : Value} {m : Nat} {ks ks' : List (List UInt8)} {l : Cf.Ens} (h : CBox W cb eb u m ks l)
    (hb : ∀ j, j < W.heap.size → some j ≠ u.ownBlock → w4.heap[j]? = W.heap[j]?)
    (hrow : KRow w4 (.slice (some ⟨g, 0, none⟩) n cap) ks') (hg : u.ownBlock = some g ∨ W.heap.size ≤ g) (e2 : w2 = w4.setCell ⟨cb, 2, none⟩ (.slice (some ⟨g, 0, none⟩) n cap)) :
    CBox w2 cb eb (.slice (some ⟨g, 0, none⟩) n cap) m ks' l := by
  subst e2
  have hcl : cb < W.heap.size := lt_of_cell h.c0
  have hel : eb < W.heap.size := h.isMap.lt
  have bc := hb cb hcl h.ne2
  have be := hb eb hel h.ne3
  have gc : g ≠ cb := fun e => by
    rcases hg with h1 | h1
    · exact h.ne2 (by rw [h1, e])
    · omega
  have ge : g ≠ eb := fun e => by
    rcases hg with h1 | h1
    · exact h.ne3 (by rw [h1, e])
    · omega
  have hS : ∀ c, c ≠ cb → (w4.setCell ⟨cb, 2, none⟩ (.slice (some ⟨g, 0, none⟩) n cap)).heap[c]? = w4.heap[c]? := fun c hc => Below.heap_setCell w4 ⟨cb, 2, none⟩ _ c hc
  have d2 : w4.cell? ⟨cb, 2, none⟩ = some u := (World.cell?_of_block (a := ⟨cb, 2, none⟩) bc).trans h.c2
  refine ⟨?_, ?_, World.cell?_setCell_same' _ _ _ (by rw [d2]; rfl), ?_, hrow.same fun j hj => hS j ?_, (h.isMap.same be).same (hS eb h.ne1.symm), h.ne1, ?_, ?_⟩
  · rw [World.cell?_setCell_other]
    · exact (World.cell?_of_block (a := ⟨cb, 0, none⟩) bc).trans h.c0
    · simp
  · rw [World.cell?_setCell_other]
    · exact (World.cell?_of_block (a := ⟨cb, 1, none⟩) bc).trans h.c1
    · simp
  · rw [World.frozen?_setCell]
    exact (World.frozen?_of_block (a := ⟨cb, 2, none⟩) bc).trans h.f2
  · intro e
    have : j = g := by simpa [Value.ownBlock] using hj
    exact gc (this.symm.trans e)
  · intro e
    exact gc (by simpa [Value.ownBlock] using e.symm)
  · intro e
    exact ge (by simpa [Value.ownBlock] using e.symm)
set_option maxRecDepth 100000 in
set_option maxHeartbeats 4000000 in
theorem makeLast_calls {W : World} {cb eb : Nat} {u : Value} {m : Nat} {ks : List (List UInt8)} {l : Cf.Ens} (h : CBox W cb eb u m ks l) (hl : ks.length ≤ 1000) (k : List UInt8) :
    Calls Tryz.prog 253 #[.pointer (some ⟨cb, 0, none⟩), .string (ba k)] W fun e w' => e = .returned (.tuple #[]) ∧ Only (CBlk cb eb u) W w' ∧ ∃ u', CBox w' cb eb u' m ((ks.filter fun x => !(x == k)) ++ [k]) l ∧ ∀ j, some j = u'.ownBlock → some j = u.ownBlock ∨ W.heap.size ≤ j := by
  have g0 : Below W.heap.size W (W.alloc (.cells #[.string (ba k)] 9)) := (Below.refl _ W).alloc (Nat.le_refl _) _
  have h0 := h.below g0
  have hb0 : (W.alloc (.cells #[.string (ba k)] 9)).cell? ⟨W.heap.size, 0, none⟩ = some (.string (ba k)) := by simp
  have hz0 : (W.alloc (.cells #[.string (ba k)] 9)).heap.size = W.heap.size + 1 := by simp
  have hnw : some W.heap.size ≠ u.ownBlock := fun e => by have := h.row.lt e; omega
  have HD := hid1 (delKey_calls h0.row hl k W.heap.size hb0 hnw)
  have c2 := h0.c2
  have hfl : (ks.filter fun x => !(x == k)).length ≤ ks.length := List.length_filter_le _ _
  obtain ⟨i0, hi, hz1, hz2, hz3⟩ := info_parts Tryz.infoStr
  have HH := hid1 h
  have HH0 := hid1 h0
  have hcl : cb < W.heap.size := lt_of_cell h.c0
  have hu2 := h.ne2
  have hml : (ks.filter fun x => !(x == k)).length + 1 ≤ maxLen := by unfold maxLen; omega
  clear h h0
  generalize (ks.filter fun x => !(x == k)) = fs at *
  generalize hW0 : W.alloc (.cells #[.string (ba k)] 9) = W0 at *
  go_enter Tryz.func253, Tryz.ntmps253
  go_wp2_with fail
  refine HD.out.mono ?_
  rintro e w2 ⟨u2, rfl, hk2, ho2, hg2⟩
  have hz2' := hg2.size
  have b2 := World.grownBy.cell_far hg2 ⟨W.heap.size, 0, none⟩ (by show W.heap.size < _; omega) hnw
  rw [hb0] at b2
  have q2 := World.grownBy.cell_far hg2 ⟨cb, 2, none⟩ (by show cb < _; omega) hu2
  rw [c2] at q2
  have f2 := World.grownBy.frozen_far hg2 ⟨cb, 2, none⟩ (by show cb < _; omega) hu2
  rw [HH0.out.f2] at f2
  have HO2 := hid1 ho2
  have HG2 := hid1 hg2
  have HK2 := hid1 hk2
  have hcl2 : cb < w2.heap.size := by omega
  clear HD hg2 ho2
  have a2 : Below w2.heap.size w2 (w2.alloc (.cells #[.string (ba k)] 9)) := (Below.refl _ w2).alloc (Nat.le_refl _) _
  have q2a := hid1 (cell_below' q2 a2)
  have f2a := hid1 ((a2.frozen (p := ⟨cb, 2, none⟩) hcl2).trans f2)
  have HA2 := hid1 a2
  clear a2
  have hk3 : w2.ownsRow 0 9 1 u2 fs.length (fs.map sv) := hk2
  clear hk2
  go_wp2_with (first
    | (at_builtin; refine wpList_append_lies _ rfl _ _ 45 rfl 0 9 i0 (.string ⟨#[]⟩) 1 16 Tryz.underlying45 hi hz1 hz2 hz3 rfl (by decide) u2 fs.length (fs.map sv) rfl (hk3.alloc _) ⟨w2.heap.size, 0, none⟩ 1 1 [.string (ba k)] rfl rfl (cell_one_new _ _ _) (by simp [Value.oneCell']) (by decide) hml (by omega) (by simp) _ rfl ?_; intro g cap w4 hown4 hgrow4 hlies4 hlt4; (have q4 := (World.grownBy.cell_far hgrow4 ⟨cb, 2, none⟩ (by simp; omega) (by rw [HO2.out]; exact hu2)).trans (q2a.out)); (have f4 := (World.grownBy.frozen_far hgrow4 ⟨cb, 2, none⟩ (by simp; omega) (by rw [HO2.out]; exact hu2)).trans (f2a.out)); (have HR := hid1 (And.intro hown4 (And.intro hgrow4 (And.intro hlies4 hlt4)))); clear hown4 hgrow4 hlies4 hlt4)
    | fail)
  go_wp2
  go_end0
  obtain ⟨hown, hgrow, hlies, hlt⟩ := HR.out
  have hA2 := HA2.out
  have hG2 := HG2.out
  rw [HO2.out] at hgrow hlies
  have za := hA2.size
  have zg := hgrow.size
  have hb : ∀ j, j < W.heap.size → some j ≠ u.ownBlock → w4.heap[j]? = W.heap[j]? := fun j hj hn =>
    (hgrow.block j (by omega) hn).trans ((hA2.block j (by omega)).trans ((hG2.block j (by omega) hn).trans (g0.block j hj)))
  have hg : u.ownBlock = some g ∨ W.heap.size ≤ g := by
    rcases hlies with h1 | h1
    · exact .inl h1
    · exact .inr (by omega)
  have hB := HH.out.stored hb (ks' := fs ++ [k]) (by unfold KRow; rw [List.length_append, List.length_singleton, List.map_append]; exact hown) hg rfl
  refine ⟨rfl, ⟨hgrow.os.trans (hA2.os.trans (hG2.os.trans g0.os)), hgrow.tape.trans (hA2.tape.trans (hG2.tape.trans g0.tape)), hgrow.output.trans (hA2.output.trans (hG2.output.trans g0.output)), by simp; omega, fun j hj hs => ?_⟩, _, hB, fun j hj => ?_⟩
  · have h1 : j ≠ cb := fun e => hs (.inl e)
    have h2 : some j ≠ u.ownBlock := fun e => hs (.inr (.inr e))
    exact (Below.heap_setCell w4 ⟨cb, 2, none⟩ _ j h1).trans (hb j hj h2)
  · obtain rfl : j = g := by simpa [Value.ownBlock] using hj
    rcases hg with h1 | h1
    · exact .inl h1.symm
    · exact .inr h1
end Go.Proofs.YtmhipgompplkdaaGreatDoor
namespace Go.Proofs.YtmhipgompplkdaaGreatDoor
open Go.RowKit Go.Shelf Go.Lib
set_option maxRecDepth 100000 in
set_option maxHeartbeats 4000000 in
theorem cNew_yes (W : World) (m : Nat) (h1 : 1 ≤ m) (h2 : m ≤ 100) :
    Calls Tryz.prog 59 #[.int .i64 m] W fun e w' => ∃ p S, e = .returned (.tuple #[.pointer (some p), .nilIface]) ∧ Below W.heap.size W w' ∧ CAt S w' (.pointer (some p)) m [] ∧ ∀ k, S k → W.heap.size ≤ k := by
  have z1 : (1 : Int) ≤ (m : Int) := by omega
  have z2 : (m : Int) ≤ 100 := by omega
  have hmm := @run_makeMap Tryz.prog
  go_enter Tryz.func59, Tryz.ntmps59
  go_wp2
  go_ret2
  clear hmm
  have hz : (W.alloc (.map #[] 0)).heap.size = W.heap.size + 1 := by simp
  have g1 : Below W.heap.size W (W.alloc (.map #[] 0)) := (Below.refl _ W).alloc (Nat.le_refl _) _
  have hm0 := CMap.made W
  generalize W.alloc (.map #[] 0) = W1 at *
  have g2 : Below W1.heap.size W1 (W1.alloc (.cells #[.int .i64 m, .map (some W.heap.size), .slice none 0 0] 190)) := (Below.refl _ W1).alloc (Nat.le_refl _) _
  refine ⟨⟨W.heap.size + 1, 0, none⟩, CBlk (W.heap.size + 1) W.heap.size (.slice none 0 0), rfl, g1.trans (g2.mono (by omega)), ⟨_, _, _, rfl, fun j => Iff.rfl, ⟨?_, ?_, ?_, ?_, World.ownsRow_nil _ _ _ _, hm0.same (g2.block _ (by omega)), by omega, by simp [Value.ownBlock], by simp [Value.ownBlock]⟩, fun e he => by simp at he⟩, ?_⟩
  · rw [← hz]; simp
  · rw [← hz]; simp
  · rw [← hz]; simp
  · rw [← hz]; simp
  · rintro k (rfl | rfl | hk)
    · omega
    · omega
    · simp [Value.ownBlock] at hk
set_option maxRecDepth 100000 in
set_option maxHeartbeats 4000000 in
theorem cNew_no {es : Nat → Addr} (W : World) (m : Int) (hm : m < 1 ∨ 100 < m) (hE : W.cell? ⟨4, 0, none⟩ = some (erOf es 2)) :
    Calls Tryz.prog 59 #[.int .i64 m] W fun e w' => e = .returned (.tuple #[.pointer none, erOf es 2]) ∧ Below W.heap.size W w' := by
  generalize erOf es 2 = er at *
  rcases hm with hm | hm
  · go_enter Tryz.func59, Tryz.ntmps59
    go_wp2
    go_region
    go_wp2
    go_ret2
    exact ⟨rfl, by first | exact Below.refl _ _ | exact below_draws (Below.refl _ _) _⟩
  · have z1 : (1 : Int) ≤ m := by omega
    go_enter Tryz.func59, Tryz.ntmps59
    go_wp2
    go_region
    go_wp2
    go_ret2
    exact ⟨rfl, by first | exact Below.refl _ _ | exact below_draws (Below.refl _ _) _⟩
end Go.Proofs.YtmhipgompplkdaaGreatDoor
namespace Go.Proofs.YtmhipgompplkdaaGreatDoor
open Go.RowKit Go.Shelf Go.Lib
theorem CBlk.step {cb eb : Nat} {u u' : Value} {n : Nat} (h : ∀ j, some j = u'.ownBlock → some j = u.ownBlock ∨ n ≤ j) : ∀ j, CBlk cb eb u' j → CBlk cb eb u j ∨ n ≤ j := by
  rintro j (h1 | h1 | h1)
  · exact .inl (.inl h1)
  · exact .inl (.inr (.inl h1))
  · rcases h j h1 with h2 | h2
    · exact .inl (.inr (.inr h2))
    · exact .inr h2
set_option maxRecDepth 100000 in
set_option maxHeartbeats 8000000 in
theorem cGet_calls {S : Nat → Prop} {W : World} {v : Value} {m : Nat} {l : Cf.Ens} (h : CAt S W v m l) (hO : Cf.Ok m l) (hm : m ≤ 100) (k : List UInt8) (hk : k.length ≤ 100000) :
    Calls Tryz.prog 173 #[v, .string (ba k)] W fun e w' => e = .returned (.tuple #[.string (ba ((Cf.find l k).getD [])), .bool (Cf.find l k).isSome]) ∧ Only S W w' ∧ ∃ S', CAt S' w' v m (Cf.get m l k) ∧ ∀ j, S' j → S j ∨ W.heap.size ≤ j := by
  obtain ⟨cb, eb, u, rfl, hS, h, hsh⟩ := h
  have hlk := look_cache h.isMap k (by omega)
  have c1 := h.c1
  have hl := hO.few
  have HH := hid1 h
  have HS := hid1 hS
  have HO := hid1 hO
  have hlt := h.lt
  clear hS hO
  cases hf : Cf.find l k with
  | none =>
    have HF := hid1 hf
    rw [hf] at hlk
    simp only [Option.getD_none, Option.isSome_none] at hlk ⊢
    clear h hlt hf
    go_enter Tryz.func173, Tryz.ntmps173
    go_wp2
    go_ret2
    have g0 : Below W.heap.size W (W.alloc (.cells #[.string (ba [])] 322)) := (Below.refl _ W).alloc (Nat.le_refl _) _
    refine ⟨rfl, Only.of g0, S, ?_, fun j hj => .inl hj⟩
    have e : Cf.get m l k = l := by unfold Cf.get; rw [HF.out]
    rw [e]
    exact ⟨cb, eb, u, rfl, HS.out, HH.out.below g0, hsh⟩
  | some b =>
    have HF := hid1 hf
    rw [hf] at hlk
    simp only [Option.getD_some, Option.isSome_some] at hlk ⊢
    have g0 : Below W.heap.size W (W.alloc (.cells #[.string (ba b)] 322)) := (Below.refl _ W).alloc (Nat.le_refl _) _
    have hb0 : (W.alloc (.cells #[.string (ba b)] 322)).cell? ⟨W.heap.size, 0, none⟩ = some (.string (ba b)) := by simp
    have hz0 : (W.alloc (.cells #[.string (ba b)] 322)).heap.size = W.heap.size + 1 := by simp
    have HL := hid1 (makeLast_calls (h.below g0) (by rw [Cf.keys_len]; omega) k)
    have hnb : ¬ CBlk cb eb u W.heap.size := fun x => by have := hlt _ x; omega
    have HN := hid1 hnb
    have HG0 := hid1 g0
    clear h hlt hf g0 hnb
    generalize hW0 : W.alloc (.cells #[.string (ba b)] 322) = W0 at *
    go_enter Tryz.func173, Tryz.ntmps173
    go_wp2_with fail
    refine HL.out.mono ?_
    rintro e w1 ⟨rfl, hon, u', hb', hu'⟩
    have hb1 := hon.cell hb0 HN.out
    have HR := hid1 (And.intro hon (And.intro hb' hu'))
    clear HL hon hb' hu'
    go_wp2
    go_ret2
    obtain ⟨hon, hb', hu'⟩ := HR.out
    have g0 := HG0.out
    obtain ⟨hg, hp⟩ := Cf.get_hit HO.out HF.out
    refine ⟨rfl, ?_, CBlk cb eb u', ⟨cb, eb, u', rfl, fun j => Iff.rfl, ?_, fun e he => hsh e (hp.mem_iff.1 he)⟩, ?_⟩
    · have h1 : Only S W W0 := Only.of g0
      refine h1.trans hon fun j hj => .inl ((HS.out j).2 hj)
    · have hmp := hb'.isMap
      have ek : Cf.keys (Cf.get m l k) = (Cf.keys l).filter (fun x => !(x == k)) ++ [k] := by
        rw [hg]
        unfold Cf.keys
        rw [List.map_append]
        show Cf.keys (Cf.rm l k) ++ _ = _
        rw [Cf.keys_rm]
        rfl
      rw [ek]
      refine ⟨hb'.c0, hb'.c1, hb'.c2, hb'.f2, hb'.row, hmp.perm (fun p => ?_) hp.length_eq, hb'.ne1, hb'.ne2, hb'.ne3⟩
      rw [hg, Cf.find_laid]
      by_cases e : p = k
      · rw [if_pos e, e, HF.out]
      · rw [if_neg e]
    · intro j hj
      rcases CBlk.step hu' j hj with h1 | h1
      · exact .inl ((HS.out j).2 h1)
      · exact .inr (by omega)
end Go.Proofs.YtmhipgompplkdaaGreatDoor
