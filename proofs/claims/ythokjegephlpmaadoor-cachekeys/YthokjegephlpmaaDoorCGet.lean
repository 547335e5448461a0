/- Package cache's Get: the walk. -/
import Derived.Test.YthokjegephlpmaaDoorCProg
namespace Go.Proofs.YthokjegephlpmaaDoor
open Go.RowKit Go.Shelf Go.Lib

theorem CBlk.step {cb eb : Nat} {u u' : Value} {n : Nat} (h : ∀ j, some j = u'.ownBlock → some j = u.ownBlock ∨ n ≤ j) : ∀ j, CBlk cb eb u' j → CBlk cb eb u j ∨ n ≤ j := by
  rintro j (h1 | h1 | h1)
  · exact .inl (.inl h1)
  · exact .inl (.inr (.inl h1))
  · rcases h j h1 with h2 | h2
    · exact .inl (.inr (.inr h2))
    · exact .inr h2

set_option maxRecDepth 100000 in
set_option maxHeartbeats 8000000 in
theorem cGet_calls {S : Nat → Prop} {W : World} {v : Value} {m : Nat} {l : Cf.Ens} (h : CAt S W v m l) (hO : Cf.Ok m l) (hm : m ≤ 100) (k : List UInt8) (hk : k.length ≤ 10000) :
    Calls Tryd.prog 13 #[v, .string (ba k)] W fun e w' => e = .returned (.tuple #[.string (ba ((Cf.find l k).getD [])), .bool (Cf.find l k).isSome]) ∧ Only S W w' ∧ ∃ S', CAt S' w' v m (Cf.get m l k) ∧ ∀ j, S' j → S j ∨ W.heap.size ≤ j := by
  obtain ⟨cb, eb, u, rfl, hS, h, hsh⟩ := h
  have hlk := look_cache h.isMap k (by omega)
  have c1 := h.c1
  have hl := hO.few
  have HH := hid1 h
  have HS := hid1 hS
  have HO := hid1 hO
  have hlt := h.lt
  clear hS hO
  cases hf : Cf.find l k with
  | none =>
    have HF := hid1 hf
    rw [hf] at hlk
    simp only [Option.getD_none, Option.isSome_none] at hlk ⊢
    clear h hlt hf
    go_enter Tryd.func13, Tryd.ntmps13
    go_wp2
    go_ret2
    have g0 : Below W.heap.size W (W.alloc (.cells #[.string (ba [])] 63)) := (Below.refl _ W).alloc (Nat.le_refl _) _
    refine ⟨rfl, Only.of g0, S, ?_, fun j hj => .inl hj⟩
    have e : Cf.get m l k = l := by unfold Cf.get; rw [HF.out]
    rw [e]
    exact ⟨cb, eb, u, rfl, HS.out, HH.out.below g0, hsh⟩
  | some b =>
    have HF := hid1 hf
    rw [hf] at hlk
    simp only [Option.getD_some, Option.isSome_some] at hlk ⊢
    have g0 : Below W.heap.size W (W.alloc (.cells #[.string (ba b)] 63)) := (Below.refl _ W).alloc (Nat.le_refl _) _
    have hb0 : (W.alloc (.cells #[.string (ba b)] 63)).cell? ⟨W.heap.size, 0, none⟩ = some (.string (ba b)) := by simp
    have hz0 : (W.alloc (.cells #[.string (ba b)] 63)).heap.size = W.heap.size + 1 := by simp
    have HL := hid1 (makeLast_calls (h.below g0) (by rw [Cf.keys_len]; omega) k)
    have hnb : ¬ CBlk cb eb u W.heap.size := fun x => by have := hlt _ x; omega
    have HN := hid1 hnb
    have HG0 := hid1 g0
    clear h hlt hf g0 hnb
    generalize hW0 : W.alloc (.cells #[.string (ba b)] 63) = W0 at *
    go_enter Tryd.func13, Tryd.ntmps13
    go_wp2_with fail
    refine HL.out.mono ?_
    rintro e w1 ⟨rfl, hon, u', hb', hu'⟩
    have hb1 := hon.cell hb0 HN.out
    have HR := hid1 (And.intro hon (And.intro hb' hu'))
    clear HL hon hb' hu'
    go_wp2
    go_ret2
    obtain ⟨hon, hb', hu'⟩ := HR.out
    have g0 := HG0.out
    obtain ⟨hg, hp⟩ := Cf.get_hit HO.out HF.out
    refine ⟨rfl, ?_, CBlk cb eb u', ⟨cb, eb, u', rfl, fun j => Iff.rfl, ?_, fun e he => hsh e (hp.mem_iff.1 he)⟩, ?_⟩
    · have h1 : Only S W W0 := Only.of g0
      refine h1.trans hon fun j hj => .inl ((HS.out j).2 hj)
    · have hmp := hb'.isMap
      have ek : Cf.keys (Cf.get m l k) = (Cf.keys l).filter (fun x => !(x == k)) ++ [k] := by
        rw [hg]
        unfold Cf.keys
        rw [List.map_append]
        show Cf.keys (Cf.rm l k) ++ _ = _
        rw [Cf.keys_rm]
        rfl
      rw [ek]
      refine ⟨hb'.c0, hb'.c1, hb'.c2, hb'.f2, hb'.row, hmp.perm (fun p => ?_) hp.length_eq, hb'.ne1, hb'.ne2, hb'.ne3⟩
      rw [hg, Cf.find_laid]
      by_cases e : p = k
      · rw [if_pos e, e, HF.out]
      · rw [if_neg e]
    · intro j hj
      rcases CBlk.step hu' j hj with h1 | h1
      · exact .inl ((HS.out j).2 h1)
      · exact .inr (by omega)
end Go.Proofs.YthokjegephlpmaaDoor
