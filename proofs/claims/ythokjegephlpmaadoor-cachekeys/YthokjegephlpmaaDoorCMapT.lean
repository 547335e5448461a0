/- How package cache's Cache lies in memory: its map of entries, its row of keys. -/
import Derived.Test.YthokjegephlpmaaDoorCacheM2
import Derived.Maps.OwnSet
import Derived.Lib.OwnBridge
namespace Go.Proofs.YthokjegephlpmaaDoor
open Go.RowKit Go.Shelf Go.Lib Go.Maps

/-- How an entry reads. -/
def centElem : Value → Option (DataW Unit × List MemPlace)
  | .agg ⟨[.string s]⟩ => some (.lit (.string s.data.toList), [])
  | _ => none
theorem centElem_mk (l : List UInt8) : centElem (.agg #[.string (ba l)]) = some (.lit (.string l), []) := rfl
theorem centElem_inv {v : Value} {z : DataW Unit × List MemPlace} (h : centElem v = some z) : ∃ l : List UInt8, v = .agg #[.string (ba l)] ∧ z = (.lit (.string l), []) := by
  unfold centElem at h
  split at h
  · cases h
    rename_i s
    exact ⟨s.data.toList, rfl, rfl⟩
  · cases h
theorem claw : Keyed Tryd.prog 9 := string_keyed Tryd.underlying9
theorem ckey (p : List UInt8) (hp : p.length ≤ 1000000) : keyOf Tryd.prog 9 (.string (ba p)) = some (.string p) :=
  WideMaps.keyOf_string_mk Tryd.underlying9 (s := ba p) (by rw [ba_size]; unfold maxLen; omega)

namespace Cf
theorem find_nil (p : List UInt8) : find [] p = none := rfl
theorem find_cons (e : En) (t : Ens) (p : List UInt8) : find (e :: t) p = if e.1 = p then some e.2 else find t p := by
  unfold find
  by_cases h : e.1 = p
  · rw [if_pos h, List.find?_cons_of_pos (by simp [h])]
    rfl
  · rw [if_neg h, List.find?_cons_of_neg (by simp [h])]
theorem find_laid (l : Ens) (k b p : List UInt8) : find (rm l k ++ [(k, b)]) p = if p = k then some b else find l p := by
  induction l with
  | nil =>
    show find [(k, b)] p = _
    rw [find_cons]
    by_cases h : p = k
    · subst h; simp
    · rw [if_neg h, if_neg fun e => h e.symm]
  | cons e t ih =>
    by_cases he : e.1 = k
    · have : rm (e :: t) k = rm t k := by unfold rm; rw [List.filter_cons_of_neg (by simp [he])]
      rw [this, ih]
      by_cases h : p = k
      · rw [if_pos h, if_pos h]
      · rw [if_neg h, if_neg h, find_cons, if_neg (fun x : e.1 = p => h (x.symm.trans he))]
    · have : rm (e :: t) k = e :: rm t k := by unfold rm; rw [List.filter_cons_of_pos (by simp [he])]
      rw [this, List.cons_append, find_cons, ih, find_cons]
      by_cases h : p = k
      · subst h
        rw [if_neg he, if_pos rfl, if_pos rfl]
      · rw [if_neg h, if_neg h]
theorem find_drop {l : Ens} {e : En} (ho : (keys (e :: l)).Nodup) (p : List UInt8) : find l p = if p = e.1 then none else find (e :: l) p := by
  obtain ⟨h1, h2⟩ := List.nodup_cons.1 ho
  by_cases h : p = e.1
  · rw [if_pos h]
    cases hf : find l p with
    | none => rfl
    | some b => exact absurd (List.mem_map.2 ⟨_, find_some hf, h⟩) h1
  · rw [if_neg h, find_cons, if_neg fun x => h x.symm]
theorem keys_rm (l : Ens) (k : List UInt8) : keys (rm l k) = (keys l).filter fun x => !(x == k) := by
  unfold keys rm
  rw [List.filter_map]
  rfl
theorem keys_len (l : Ens) : (keys l).length = l.length := by simp [keys]
theorem rm_len_in {l : Ens} (ho : (keys l).Nodup) {k b : List UInt8} (hf : find l k = some b) : (rm l k).length + 1 = l.length := by
  have h1 := rm_ge ho k
  have h2 : (rm l k).length ≠ l.length := fun e => by
    have h3 := (rm_sub l k).eq_of_length e
    have := rm_key l k
    rw [h3] at this
    exact this (List.mem_map.2 ⟨_, find_some hf, rfl⟩)
  have := rm_le l k
  omega
theorem rm_len_out {l : Ens} {k : List UInt8} (hf : find l k = none) : (rm l k).length = l.length := by rw [rm_none (find_none hf)]
end Cf

/-- A map that holds what a cache keeps. -/
def CMap (W : World) (eb : Nat) (l : Cf.Ens) : Prop :=
  ∃ D : DataW Unit, W.ownsMap Tryd.prog 9 centElem eb l.length D ∧ Maps.size D = l.length ∧ (∀ p, has D (.string p) = (Cf.find l p).isSome) ∧ ∀ p, D.atKey (.string p) (.lit (.string [])) = .lit (.string ((Cf.find l p).getD []))
theorem owns_tight {w : World} {b n : Nat} {D : DataW Unit} {R : Value → Option (DataW Unit × List MemPlace)} (h : w.ownsMap Tryd.prog 9 R b n D) : w.ownsMap Tryd.prog 9 R b (Maps.size D) D := by
  obtain ⟨es, clock, h1, F, _, hD⟩ := h
  refine ⟨es, clock, h1, F, ?_, hD⟩
  rw [hD]
  simp [Maps.size, length_sorted]
theorem CMap.lt {W : World} {eb : Nat} {l : Cf.Ens} (h : CMap W eb l) : eb < W.heap.size := by
  obtain ⟨D, h1, _⟩ := h
  exact h1.lt
theorem CMap.same {W W' : World} {eb : Nat} {l : Cf.Ens} (h : CMap W eb l) (hb : W'.heap[eb]? = W.heap[eb]?) : CMap W' eb l := by
  obtain ⟨D, ⟨es, clock, h1, F⟩, h2⟩ := h
  exact ⟨D, ⟨es, clock, hb.trans h1, F⟩, h2⟩
theorem CMap.made (W : World) : CMap (W.alloc (.map #[] 0)) W.heap.size [] :=
  ⟨.map [], World.ownsMap_made W _ _ _, rfl, fun _ => rfl, fun _ => rfl⟩
/-- The same finds, in another order. -/
theorem CMap.perm {W : World} {eb : Nat} {l l' : Cf.Ens} (h : CMap W eb l) (hf : ∀ p, Cf.find l' p = Cf.find l p) (hl : l'.length = l.length) : CMap W eb l' := by
  obtain ⟨D, h1, h2, h3, h4⟩ := h
  exact ⟨D, by rw [hl]; exact h1, by rw [hl]; exact h2, fun p => by rw [hf]; exact h3 p, fun p => by rw [hf]; exact h4 p⟩
theorem CMap.laid {W : World} {eb n : Nat} {l : Cf.Ens} {D : DataW Unit} {k b : List UInt8} (ho : (Cf.keys l).Nodup) (hT : Tidy D) (h1 : W.ownsMap Tryd.prog 9 centElem eb n (D.put (.string k) (.lit (.string b)))) (h2 : Maps.size D = l.length) (h3 : ∀ p, has D (.string p) = (Cf.find l p).isSome) (h4 : ∀ p, D.atKey (.string p) (.lit (.string [])) = .lit (.string ((Cf.find l p).getD []))) :
    CMap W eb (Cf.rm l k ++ [(k, b)]) := by
  have hk : WideAt.IsKeyLit (.string k) := by simp [WideAt.IsKeyLit]
  have hs : Maps.size (D.put (.string k) (.lit (.string b))) = (Cf.rm l k ++ [(k, b)]).length := by
    rw [size_put hT, h3, h2, List.length_append, List.length_singleton]
    cases hf : Cf.find l k with
    | none => rw [Cf.rm_len_out hf]; rfl
    | some c => rw [Cf.rm_len_in ho hf]; rfl
  refine ⟨_, hs ▸ owns_tight h1, hs, fun p => ?_, fun p => ?_⟩
  · rw [Cf.find_laid]
    by_cases h : p = k
    · subst h
      rw [if_pos rfl, has_put_same hT.isMap hk]
      rfl
    · rw [if_neg h, has_put_other (by simpa using h), h3]
  · rw [Cf.find_laid]
    by_cases h : p = k
    · subst h
      rw [if_pos rfl, atKey_put_same hT.isMap hk]
      rfl
    · rw [if_neg h, atKey_put_other (by simpa using h), h4]
theorem CMap.cut {W : World} {eb n : Nat} {e : Cf.En} {l : Cf.Ens} {D : DataW Unit} (ho : (Cf.keys (e :: l)).Nodup) (hT : Tidy D) (h1 : W.ownsMap Tryd.prog 9 centElem eb n (D.del (.string e.1))) (h2 : Maps.size D = (e :: l).length) (h3 : ∀ p, has D (.string p) = (Cf.find (e :: l) p).isSome) (h4 : ∀ p, D.atKey (.string p) (.lit (.string [])) = .lit (.string ((Cf.find (e :: l) p).getD []))) :
    CMap W eb l := by
  have hs : Maps.size (D.del (.string e.1)) = l.length := by
    have := size_del (k := .string e.1) hT
    rw [h3, Cf.find_cons, if_pos rfl, h2] at this
    simpa using this
  refine ⟨_, hs ▸ owns_tight h1, hs, fun p => ?_, fun p => ?_⟩
  · rw [Cf.find_drop ho]
    by_cases h : p = e.1
    · rw [if_pos h, h, has_del_same]
      rfl
    · rw [if_neg h, has_del_other (by simpa using h), h3]
  · rw [Cf.find_drop ho]
    by_cases h : p = e.1
    · rw [if_pos h, h, atKey_del_same]
      rfl
    · rw [if_neg h, atKey_del_other (by simpa using h), h4]
theorem look_cache {W : World} {eb : Nat} {l : Cf.Ens} (h : CMap W eb l) (p : List UInt8) (hp : p.length ≤ 1000000) :
    (Instr.lookup 59 (.map (some eb)) (.string (ba p)) true).run Tryd.prog W = .ok (.tuple #[.agg #[.string (ba ((Cf.find l p).getD []))], .bool (Cf.find l p).isSome]) W := by
  obtain ⟨D, h1, h2, h3, h4⟩ := h
  obtain ⟨v, ps, hrun, hv⟩ := h1.look_ok (t := 59) (e := 63) claw Tryd.underlying59 (z := .agg #[.string (ba [])]) (Tryd.zeroValue63 W) (zd := .lit (.string [])) (zp := []) rfl (ckey p hp)
  obtain ⟨x, rfl, hl⟩ := centElem_inv hv
  rw [h3] at hrun
  rw [h4] at hl
  have : (Cf.find l p).getD [] = x := by
    simp at hl
    exact hl.1
  rw [this]
  exact hrun

/-- A row of keys: its block is its own. -/
def KRow (W : World) (u : Value) (ks : List (List UInt8)) : Prop := W.ownsRow 0 9 1 u ks.length (ks.map sv)
theorem KRow.same {W W' : World} {u : Value} {ks : List (List UInt8)} (h : KRow W u ks) (hb : ∀ j, some j = u.ownBlock → W'.heap[j]? = W.heap[j]?) : KRow W' u ks := by
  refine ⟨h.1, ?_⟩
  rcases h.2 with h1 | ⟨g, cap, cur, e, h0, hg, h2⟩
  · exact .inl h1
  · exact .inr ⟨g, cap, cur, e, h0, (hb g (by rw [e]; rfl)).trans hg, h2⟩
theorem KRow.lt {W : World} {u : Value} {ks : List (List UInt8)} (h : KRow W u ks) {j : Nat} (hj : some j = u.ownBlock) : j < W.heap.size := by
  rcases h.2 with ⟨e, _⟩ | ⟨g, cap, cur, e, h0, hg, h2⟩
  · rw [e] at hj; cases hj
  · rw [e] at hj
    have : j = g := by simpa [Value.ownBlock] using hj
    subst this
    exact (Array.getElem?_eq_some_iff.1 hg).1

/-- A cache: its box, its map, its row of keys. -/
structure CBox (W : World) (cb eb : Nat) (u : Value) (m : Nat) (ks : List (List UInt8)) (l : Cf.Ens) : Prop where
  c0 : W.cell? ⟨cb, 0, none⟩ = some (.int .i64 m)
  c1 : W.cell? ⟨cb, 1, none⟩ = some (.map (some eb))
  c2 : W.cell? ⟨cb, 2, none⟩ = some u
  f2 : W.frozen? ⟨cb, 2, none⟩ = false
  row : KRow W u ks
  isMap : CMap W eb l
  ne1 : cb ≠ eb
  ne2 : some cb ≠ u.ownBlock
  ne3 : some eb ≠ u.ownBlock
/-- The blocks of a cache. -/
def CBlk (cb eb : Nat) (u : Value) (j : Nat) : Prop := j = cb ∨ j = eb ∨ some j = u.ownBlock
theorem CBox.same {W W' : World} {cb eb : Nat} {u : Value} {m : Nat} {ks : List (List UInt8)} {l : Cf.Ens} (h : CBox W cb eb u m ks l) (hb : ∀ j, CBlk cb eb u j → W'.heap[j]? = W.heap[j]?) : CBox W' cb eb u m ks l := by
  have hc := hb cb (.inl rfl)
  exact ⟨(World.cell?_of_block (a := ⟨cb, 0, none⟩) hc).trans h.c0, (World.cell?_of_block (a := ⟨cb, 1, none⟩) hc).trans h.c1, (World.cell?_of_block (a := ⟨cb, 2, none⟩) hc).trans h.c2, (World.frozen?_of_block (a := ⟨cb, 2, none⟩) hc).trans h.f2, h.row.same fun j hj => hb j (.inr (.inr hj)), h.isMap.same (hb eb (.inr (.inl rfl))), h.ne1, h.ne2, h.ne3⟩
theorem CBox.lt {W : World} {cb eb : Nat} {u : Value} {m : Nat} {ks : List (List UInt8)} {l : Cf.Ens} (h : CBox W cb eb u m ks l) : ∀ j, CBlk cb eb u j → j < W.heap.size := by
  rintro j (rfl | rfl | hj)
  · exact lt_of_cell h.c0
  · exact h.isMap.lt
  · exact h.row.lt hj
theorem CBox.below {W W' : World} {cb eb : Nat} {u : Value} {m : Nat} {ks : List (List UInt8)} {l : Cf.Ens} (h : CBox W cb eb u m ks l) (hb : Below W.heap.size W W') : CBox W' cb eb u m ks l := h.same fun j hj => hb.block j (h.lt j hj)
/-- What package cache's At is. -/
def CAt (S : Nat → Prop) (W : World) (v : Value) (m : Nat) (l : Cf.Ens) : Prop := ∃ cb eb u, v = .pointer (some ⟨cb, 0, none⟩) ∧ (∀ j, S j ↔ CBlk cb eb u j) ∧ CBox W cb eb u m (Cf.keys l) l ∧ ∀ e ∈ l, e.1.length ≤ 10000
end Go.Proofs.YthokjegephlpmaaDoor
