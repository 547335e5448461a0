import Derived.Test.YtflbofdpfgkmcaaGreatDoorOP23
import Derived.Test.YtflbofdpfgkmcaaGreatDoorOP33
import Derived.Deep.AppendLies
namespace Go.Proofs.YtflbofdpfgkmcaaGreatDoor
open Go.RowKit Go.Shelf Go.Lib Go.Maps
theorem Tryz.infoBInput : (Tryz.prog.info? 235).map (fun i => (i.zero, i.size, i.bytes)) = some (some (.agg #[.pointer none, .string ⟨#[]⟩, .bool false]), 3, 32) := by kernel_rfl
theorem Tryz.infoPStep : (Tryz.prog.info? 186).map (fun i => (i.zero, i.size, i.bytes)) = some (some (.pointer none), 1, 8) := by kernel_rfl
def MMap (W : World) (mb n : Nat) (fd : List UInt8 → Option Nat) : Prop :=
  ∃ D : DataW Unit, W.ownsMap Tryz.prog 9 stepElem mb n D ∧ (∀ x, has D (.string x) = (fd x).isSome) ∧ ∀ x z, (fd x).isSome = true → D.atKey (.string x) z = .lit (.int .i64 (stepI (fd x)))
theorem MMap.lt {W : World} {mb n : Nat} {fd : List UInt8 → Option Nat} (h : MMap W mb n fd) : mb < W.heap.size := by
  obtain ⟨D, h1, _⟩ := h
  exact h1.lt
theorem MMap.same {W W' : World} {mb n : Nat} {fd : List UInt8 → Option Nat} (h : MMap W mb n fd) (hb : W'.heap[mb]? = W.heap[mb]?) : MMap W' mb n fd := by
  obtain ⟨D, ⟨es, clock, h1, F⟩, h2⟩ := h
  exact ⟨D, ⟨es, clock, hb.trans h1, F⟩, h2⟩
theorem MMap.made (W : World) : MMap (W.alloc (.map #[] 0)) W.heap.size 0 (fun _ => none) :=
  ⟨.map [], World.ownsMap_made W _ _ _, fun _ => rfl, fun x z h => by cases h⟩
theorem MMap.isMap {W : World} {mb n : Nat} {fd : List UInt8 → Option Nat} (h : MMap W mb n fd) : ∃ a c, W.heap[mb]? = some (.map a c) := by
  obtain ⟨D, ⟨es, clock, h1, F⟩, h2⟩ := h
  exact ⟨_, _, h1⟩
theorem SMap.isMap {W : World} {bm n : Nat} {dom : Nat → Prop} {sp : Nat → Nat} (h : SMap W bm n dom sp) : ∃ a c, W.heap[bm]? = some (.map a c) := by
  obtain ⟨D, ⟨es, clock, h1, F⟩, h2⟩ := h
  exact ⟨_, _, h1⟩
theorem MMap.look {W : World} {mb n : Nat} {fd : List UInt8 → Option Nat} (h : MMap W mb n fd) (x : List UInt8) (hx : x.length ≤ 1000000) :
    (Instr.lookup 231 (.map (some mb)) (.string (ba x)) true).run Tryz.prog W = .ok (.tuple #[stepP (fd x), .bool (fd x).isSome]) W := by
  obtain ⟨D, h2, h3, h4⟩ := h
  obtain ⟨v, ps, hrun, hv⟩ := h2.look_ok (t := 231) (e := 186) claw Tryz.underlying231 (z := .pointer none) (Tryz.zeroValue186 W) (zd := .lit (.int .i64 (-1))) (zp := []) rfl (ckey x hx)
  obtain ⟨c, rfl⟩ := stepElem_inv _ _ hv
  rw [stepElem_mk] at hv
  have hc : (DataW.lit (.int .i64 (stepI c)) : DataW Unit) = D.atKey (.string x) (.lit (.int .i64 (-1))) := by simpa using congrArg (fun o => o.map Prod.fst) hv
  rw [hrun, h3]
  have : c = fd x := by
    cases hf : (fd x).isSome with
    | true =>
      rw [h4 x _ hf] at hc
      exact stepI_inj (by simpa using hc)
    | false =>
      have hh : has D (.string x) = false := by rw [h3, hf]
      rw [atKey_of_not_has hh] at hc
      have h5 : c = none := stepI_inj (by simpa [stepI] using hc)
      rw [h5]
      cases hfx : fd x with
      | none => rfl
      | some b => rw [hfx] at hf; cases hf
  rw [this]
theorem MMap.laid {W : World} {mb n : Nat} {fd : List UInt8 → Option Nat} (h : MMap W mb n fd) (hn : n < maxLen) (x : List UInt8) (hx : x.length ≤ 1000000) (b : Nat) :
    ∃ w1, (Instr.mapUpdate 231 (.map (some mb)) (.string (ba x)) (Ptr b)).run Tryz.prog W = .ok () w1 ∧ MMap w1 mb (n + 1) (fun y => if y = x then some b else fd y) ∧ W.mapTurned w1 mb := by
  obtain ⟨D, h2, h3, h4⟩ := h
  obtain ⟨w1, hr, ho1, ht⟩ := h2.store (t := 231) (e := 186) claw Tryz.underlying231 hn (ckey x hx) (stepElem_mk (some b))
  have hT := h2.tidy claw
  have hk : WideAt.IsKeyLit (.string x) := by simp [WideAt.IsKeyLit]
  refine ⟨w1, hr, ⟨_, ho1, fun y => ?_, fun y z hy => ?_⟩, ht⟩
  · show _ = (if y = x then some b else fd y).isSome
    by_cases e : y = x
    · subst e
      rw [if_pos rfl, has_put_same hT.isMap hk]
      rfl
    · rw [if_neg e, has_put_other (by simpa using e), h3]
  · replace hy : (if y = x then some b else fd y).isSome = true := hy
    show _ = DataW.lit (.int .i64 (stepI (if y = x then some b else fd y)))
    by_cases e : y = x
    · subst e
      rw [if_pos rfl, atKey_put_same hT.isMap hk]
    · rw [if_neg e] at hy ⊢
      rw [atKey_put_other (by simpa using e), h4 y z hy]
theorem SMap.laid {W : World} {bm n : Nat} {dom : Nat → Prop} {sp : Nat → Nat} (h : SMap W bm n dom sp) (hn : n < maxLen) (i b : Nat) (hi : i ≤ 1000000) :
    ∃ w1, (Instr.mapUpdate 181 (.map (some bm)) (.int .i64 (i : Nat)) (Ptr b)).run Tryz.prog W = .ok () w1 ∧ SMap w1 bm (n + 1) (fun k => dom k ∨ k = i) (updN sp i b) ∧ W.mapTurned w1 bm := by
  obtain ⟨D, h2, h3, h4⟩ := h
  obtain ⟨w1, hr, ho1, ht⟩ := h2.store (t := 181) (e := 186) ilaw Tryz.underlying181 hn (ikey (i : Nat) (by omega) (by omega)) (stepElem_mk (some b))
  have hT := h2.tidy ilaw
  have hk : WideAt.IsKeyLit (.int .i64 (i : Nat)) := by simp [WideAt.IsKeyLit]
  refine ⟨w1, hr, ⟨_, ho1, fun y => ?_, fun k hd z => ?_⟩, ht⟩
  · by_cases e : y = (i : Nat)
    · subst e
      rw [has_put_same hT.isMap hk]
      simp
    · rw [has_put_other (by simpa using e), h3]
      constructor
      · rintro ⟨a, c⟩
        exact ⟨a, .inl c⟩
      · rintro ⟨a, c | c⟩
        · exact ⟨a, c⟩
        · omega
  · by_cases e : k = i
    · subst e
      rw [atKey_put_same hT.isMap hk, updN_same]
      rfl
    · rw [atKey_put_other (by simp; omega), updN_other e]
      rcases hd with h5 | h5
      · exact h4 k h5 z
      · exact absurd h5 e
def Lay.more (L : Lay) (i b : Nat) : Lay := ⟨updN L.sp i b, updN L.iv i (.slice none 0 0), updN L.uv i (.slice none 0 0), updN L.us i []⟩
theorem Mk.more {es : Nat → Addr} {W0 W W' : World} {dom : Nat → Prop} {L : Lay} {ru : Nat → Ru} {ins : Nat → List Inp} (h : Mk es W0 W dom L ru ins) {i b : Nat} (hi : ¬ dom i) (hb : Below W.heap.size W W') (hz : W.heap.size ≤ b) (hr : W'.heap[b]? = some (.cells (stepC es (ru i) (.slice none 0 0) (.slice none 0 0) .waits) 194)) :
    Mk es W0 W' (fun k => dom k ∨ k = i) (L.more i b) ru (updN ins i []) ∧ ∀ j, SBlk (fun k => dom k ∨ k = i) (L.more i b) j → SBlk dom L j ∨ W.heap.size ≤ j := by
  have hS := h.steps.below hb
  have hlt := h.steps.lt
  have ne : ∀ k, dom k → k ≠ i := fun k hk e => hi (e ▸ hk)
  have hsp : ∀ k, dom k → (L.more i b).sp k = L.sp k := fun k hk => updN_other (ne k hk)
  have hiv : ∀ k, dom k → (L.more i b).iv k = L.iv k := fun k hk => updN_other (ne k hk)
  have huv : ∀ k, dom k → (L.more i b).uv k = L.uv k := fun k hk => updN_other (ne k hk)
  have hus : ∀ k, dom k → (L.more i b).us k = L.us k := fun k hk => updN_other (ne k hk)
  have hin : ∀ k, dom k → updN ins i [] k = ins k := fun k hk => updN_other (ne k hk)
  have hspi : (L.more i b).sp i = b := updN_same _ _ _
  have hivi : (L.more i b).iv i = .slice none 0 0 := updN_same _ _ _
  have huvi : (L.more i b).uv i = .slice none 0 0 := updN_same _ _ _
  have husi : (L.more i b).us i = [] := updN_same _ _ _
  have hini : updN ins i [] i = [] := updN_same _ _ _
  have hblk : ∀ j, SBlk (fun k => dom k ∨ k = i) (L.more i b) j → SBlk dom L j ∨ W.heap.size ≤ j := by
    rintro j ⟨k, hk | rfl, e⟩
    · rw [hsp k hk, hiv k hk, huv k hk] at e
      exact .inl ⟨k, hk, e⟩
    · rw [hspi, hivi, huvi] at e
      rcases e with e | e | e
      · exact .inr (by omega)
      · cases e
      · cases e
  refine ⟨⟨below_then h.base hb, ⟨?_, ?_, ?_, ?_, ?_, ?_⟩, ?_, ?_, ?_⟩, hblk⟩
  · rintro k (hk | rfl)
    · rw [hsp k hk, hiv k hk, huv k hk]
      exact hS.step k hk
    · rw [hspi, hivi, huvi]
      exact hr
  · rintro j k (hj | rfl) (hk | rfl) e
    · rw [hsp j hj, hsp k hk] at e
      exact hS.inj j k hj hk e
    · rw [hsp j hj, hspi] at e
      have := hlt _ ⟨j, hj, .inl rfl⟩
      omega
    · rw [hspi, hsp k hk] at e
      have := hlt _ ⟨k, hk, .inl rfl⟩
      omega
    · rfl
  · rintro k (hk | rfl)
    · rw [hiv k hk, hin k hk, insC_congr (sp' := L.sp) fun j hj => hsp j (hS.insD k hk j hj)]
      exact hS.insR k hk
    · rw [hivi, hini]
      exact World.ownsRow_nil _ _ _ _
  · rintro k (hk | rfl)
    · rw [huv k hk, hus k hk, usC_congr (sp' := L.sp) fun j hj => hsp j (hS.usD k hk j hj)]
      exact hS.usR k hk
    · rw [huvi, husi]
      exact World.ownsRow_nil _ _ _ _
  · rintro k (hk | rfl) j hj
    · rw [hin k hk] at hj
      exact .inl (hS.insD k hk j hj)
    · rw [hini] at hj
      cases hj
  · rintro k (hk | rfl) j hj
    · rw [hus k hk] at hj
      exact .inl (hS.usD k hk j hj)
    · rw [husi] at hj
      cases hj
  · intro j hj
    rcases hblk j hj with h1 | h1
    · exact h.low j h1
    · have := h.base.size
      omega
  · rintro j k (hj | rfl) (hk | rfl) hne c hc
    · rw [huv j hj] at hc
      rw [huv k hk]
      exact h.sepU j k hj hk hne c hc
    · rw [huvi]
      intro e
      cases e
    · rw [huvi] at hc
      cases hc
    · exact absurd rfl hne
  · rintro j k (hj | rfl) (hk | rfl) hne c hc
    · rw [hiv j hj] at hc
      rw [hiv k hk]
      exact h.sepI j k hj hk hne c hc
    · rw [hivi]
      intro e
      cases e
    · rw [hivi] at hc
      cases hc
    · exact absurd rfl hne
end Go.Proofs.YtflbofdpfgkmcaaGreatDoor
