import Derived.Test.YtmhipgompplkdaaGreatDoorWL23
import Derived.Test.YtmhipgompplkdaaGreatDoorWL30
import Derived.Deep.AppendLies
import Derived.Test.YtmhipgompplkdaaGreatDoorWL20
import Derived.Test.YtmhipgompplkdaaGreatDoorWL21
namespace Go.Proofs.YtmhipgompplkdaaGreatDoor
open Go.RowKit Go.Shelf Go.Lib Go.Maps
def MMap (W : World) (mb n : Nat) (fd : List UInt8 → Option Nat) : Prop :=
  ∃ D : DataW Unit, W.ownsMap Tryz.prog 9 stepElem mb n D ∧ (∀ x, has D (.string x) = (fd x).isSome) ∧ ∀ x z, (fd x).isSome = true → D.atKey (.string x) z = .lit (.int .i64 (stepI (fd x)))
theorem MMap.lt {W : World} {mb n : Nat} {fd : List UInt8 → Option Nat} (h : MMap W mb n fd) : mb < W.heap.size := by
  obtain ⟨D, h1, _⟩ := h
  exact h1.lt
theorem MMap.same {W W' : World} {mb n : Nat} {fd : List UInt8 → Option Nat} (h : MMap W mb n fd) (hb : W'.heap[mb]? = W.heap[mb]?) : MMap W' mb n fd := by
  obtain ⟨D, ⟨es, clock, h1, F⟩, h2⟩ := h
  exact ⟨D, ⟨es, clock, hb.trans h1, F⟩, h2⟩
theorem MMap.made (W : World) : MMap (W.alloc (.map #[] 0)) W.heap.size 0 (fun _ => none) :=
  ⟨.map [], World.ownsMap_made W _ _ _, fun _ => rfl, fun x z h => by cases h⟩
theorem MMap.isMap {W : World} {mb n : Nat} {fd : List UInt8 → Option Nat} (h : MMap W mb n fd) : ∃ a c, W.heap[mb]? = some (.map a c) := by
  obtain ⟨D, ⟨es, clock, h1, F⟩, h2⟩ := h
  exact ⟨_, _, h1⟩
theorem SMap.isMap {W : World} {bm n : Nat} {dom : Nat → Prop} {sp : Nat → Nat} (h : SMap W bm n dom sp) : ∃ a c, W.heap[bm]? = some (.map a c) := by
  obtain ⟨D, ⟨es, clock, h1, F⟩, h2⟩ := h
  exact ⟨_, _, h1⟩
theorem MMap.look {W : World} {mb n : Nat} {fd : List UInt8 → Option Nat} (h : MMap W mb n fd) (x : List UInt8) (hx : x.length ≤ 1000000) :
    (Instr.lookup 242 (.map (some mb)) (.string (ba x)) true).run Tryz.prog W = .ok (.tuple #[stepP (fd x), .bool (fd x).isSome]) W := by
  obtain ⟨D, h2, h3, h4⟩ := h
  obtain ⟨v, ps, hrun, hv⟩ := h2.look_ok (t := 242) (e := 196) claw Tryz.underlying242 (z := .pointer none) (Tryz.zeroValue196 W) (zd := .lit (.int .i64 (-1))) (zp := []) rfl (ckey x hx)
  obtain ⟨c, rfl⟩ := stepElem_inv _ _ hv
  rw [stepElem_mk] at hv
  have hc : (DataW.lit (.int .i64 (stepI c)) : DataW Unit) = D.atKey (.string x) (.lit (.int .i64 (-1))) := by simpa using congrArg (fun o => o.map Prod.fst) hv
  rw [hrun, h3]
  have : c = fd x := by
    cases hf : (fd x).isSome with
    | true =>
      rw [h4 x _ hf] at hc
      exact stepI_inj (by simpa using hc)
    | false =>
      have hh : has D (.string x) = false := by rw [h3, hf]
      rw [atKey_of_not_has hh] at hc
      have h5 : c = none := stepI_inj (by simpa [stepI] using hc)
      rw [h5]
      cases hfx : fd x with
      | none => rfl
      | some b => rw [hfx] at hf; cases hf
  rw [this]
theorem MMap.laid {W : World} {mb n : Nat} {fd : List UInt8 → Option Nat} (h : MMap W mb n fd) (hn : n < maxLen) (x : List UInt8) (hx : x.length ≤ 1000000) (b : Nat) :
    ∃ w1, (Instr.mapUpdate 242 (.map (some mb)) (.string (ba x)) (Ptr b)).run Tryz.prog W = .ok () w1 ∧ MMap w1 mb (n + 1) (fun y => if y = x then some b else fd y) ∧ W.mapTurned w1 mb := by
  obtain ⟨D, h2, h3, h4⟩ := h
  obtain ⟨w1, hr, ho1, ht⟩ := h2.store (t := 242) (e := 196) claw Tryz.underlying242 hn (ckey x hx) (stepElem_mk (some b))
  have hT := h2.tidy claw
  have hk : WideAt.IsKeyLit (.string x) := by simp [WideAt.IsKeyLit]
  refine ⟨w1, hr, ⟨_, ho1, fun y => ?_, fun y z hy => ?_⟩, ht⟩
  · show _ = (if y = x then some b else fd y).isSome
    by_cases e : y = x
    · subst e
      rw [if_pos rfl, has_put_same hT.isMap hk]
      rfl
    · rw [if_neg e, has_put_other (by simpa using e), h3]
  · replace hy : (if y = x then some b else fd y).isSome = true := hy
    show _ = DataW.lit (.int .i64 (stepI (if y = x then some b else fd y)))
    by_cases e : y = x
    · subst e
      rw [if_pos rfl, atKey_put_same hT.isMap hk]
    · rw [if_neg e] at hy ⊢
      rw [atKey_put_other (by simpa using e), h4 y z hy]
theorem SMap.laid {W : World} {bm n : Nat} {dom : Nat → Prop} {sp : Nat → Nat} (h : SMap W bm n dom sp) (hn : n < maxLen) (i b : Nat) (hi : i ≤ 1000000) :
    ∃ w1, (Instr.mapUpdate 192 (.map (some bm)) (.int .i64 (i : Nat)) (Ptr b)).run Tryz.prog W = .ok () w1 ∧ SMap w1 bm (n + 1) (fun k => dom k ∨ k = i) (updN sp i b) ∧ W.mapTurned w1 bm := by
  obtain ⟨D, h2, h3, h4⟩ := h
  obtain ⟨w1, hr, ho1, ht⟩ := h2.store (t := 192) (e := 196) ilaw Tryz.underlying192 hn (ikey (i : Nat) (by omega) (by omega)) (stepElem_mk (some b))
  have hT := h2.tidy ilaw
  have hk : WideAt.IsKeyLit (.int .i64 (i : Nat)) := by simp [WideAt.IsKeyLit]
  refine ⟨w1, hr, ⟨_, ho1, fun y => ?_, fun k hd z => ?_⟩, ht⟩
  · by_cases e : y = (i : Nat)
    · subst e
      rw [has_put_same hT.isMap hk]
      simp
    · rw [has_put_other (by simpa using e), h3]
      constructor
      · rintro ⟨a, c⟩
        exact ⟨a, .inl c⟩
      · rintro ⟨a, c | c⟩
        · exact ⟨a, c⟩
        · omega
  · by_cases e : k = i
    · subst e
      rw [atKey_put_same hT.isMap hk, updN_same]
      rfl
    · rw [atKey_put_other (by simp; omega), updN_other e]
      rcases hd with h5 | h5
      · exact h4 k h5 z
      · exact absurd h5 e
def Lay.more (L : Lay) (i b : Nat) : Lay := ⟨updN L.sp i b, updN L.iv i (.slice none 0 0), updN L.uv i (.slice none 0 0), updN L.us i []⟩
theorem Mk.more {es : Nat → Addr} {W0 W W' : World} {dom : Nat → Prop} {L : Lay} {ru : Nat → Ru} {ins : Nat → List Inp} (h : Mk es W0 W dom L ru ins) {i b : Nat} (hi : ¬ dom i) (hb : Below W.heap.size W W') (hz : W.heap.size ≤ b) (hr : W'.heap[b]? = some (.cells (stepC es (ru i) (.slice none 0 0) (.slice none 0 0) .waits) 203)) :
    Mk es W0 W' (fun k => dom k ∨ k = i) (L.more i b) ru (updN ins i []) ∧ ∀ j, SBlk (fun k => dom k ∨ k = i) (L.more i b) j → SBlk dom L j ∨ W.heap.size ≤ j := by
  have hS := h.steps.below hb
  have hlt := h.steps.lt
  have ne : ∀ k, dom k → k ≠ i := fun k hk e => hi (e ▸ hk)
  have hsp : ∀ k, dom k → (L.more i b).sp k = L.sp k := fun k hk => updN_other (ne k hk)
  have hiv : ∀ k, dom k → (L.more i b).iv k = L.iv k := fun k hk => updN_other (ne k hk)
  have huv : ∀ k, dom k → (L.more i b).uv k = L.uv k := fun k hk => updN_other (ne k hk)
  have hus : ∀ k, dom k → (L.more i b).us k = L.us k := fun k hk => updN_other (ne k hk)
  have hin : ∀ k, dom k → updN ins i [] k = ins k := fun k hk => updN_other (ne k hk)
  have hspi : (L.more i b).sp i = b := updN_same _ _ _
  have hivi : (L.more i b).iv i = .slice none 0 0 := updN_same _ _ _
  have huvi : (L.more i b).uv i = .slice none 0 0 := updN_same _ _ _
  have husi : (L.more i b).us i = [] := updN_same _ _ _
  have hini : updN ins i [] i = [] := updN_same _ _ _
  have hblk : ∀ j, SBlk (fun k => dom k ∨ k = i) (L.more i b) j → SBlk dom L j ∨ W.heap.size ≤ j := by
    rintro j ⟨k, hk | rfl, e⟩
    · rw [hsp k hk, hiv k hk, huv k hk] at e
      exact .inl ⟨k, hk, e⟩
    · rw [hspi, hivi, huvi] at e
      rcases e with e | e | e
      · exact .inr (by omega)
      · cases e
      · cases e
  refine ⟨⟨below_then h.base hb, ⟨?_, ?_, ?_, ?_, ?_, ?_⟩, ?_, ?_, ?_⟩, hblk⟩
  · rintro k (hk | rfl)
    · rw [hsp k hk, hiv k hk, huv k hk]
      exact hS.step k hk
    · rw [hspi, hivi, huvi]
      exact hr
  · rintro j k (hj | rfl) (hk | rfl) e
    · rw [hsp j hj, hsp k hk] at e
      exact hS.inj j k hj hk e
    · rw [hsp j hj, hspi] at e
      have := hlt _ ⟨j, hj, .inl rfl⟩
      omega
    · rw [hspi, hsp k hk] at e
      have := hlt _ ⟨k, hk, .inl rfl⟩
      omega
    · rfl
  · rintro k (hk | rfl)
    · rw [hiv k hk, hin k hk, insC_congr (sp' := L.sp) fun j hj => hsp j (hS.insD k hk j hj)]
      exact hS.insR k hk
    · rw [hivi, hini]
      exact World.ownsRow_nil _ _ _ _
  · rintro k (hk | rfl)
    · rw [huv k hk, hus k hk, usC_congr (sp' := L.sp) fun j hj => hsp j (hS.usD k hk j hj)]
      exact hS.usR k hk
    · rw [huvi, husi]
      exact World.ownsRow_nil _ _ _ _
  · rintro k (hk | rfl) j hj
    · rw [hin k hk] at hj
      exact .inl (hS.insD k hk j hj)
    · rw [hini] at hj
      cases hj
  · rintro k (hk | rfl) j hj
    · rw [hus k hk] at hj
      exact .inl (hS.usD k hk j hj)
    · rw [husi] at hj
      cases hj
  · intro j hj
    rcases hblk j hj with h1 | h1
    · exact h.low j h1
    · have := h.base.size
      omega
  · rintro j k (hj | rfl) (hk | rfl) hne c hc
    · rw [huv j hj] at hc
      rw [huv k hk]
      exact h.sepU j k hj hk hne c hc
    · rw [huvi]
      intro e
      cases e
    · rw [huvi] at hc
      cases hc
    · exact absurd rfl hne
  · rintro j k (hj | rfl) (hk | rfl) hne c hc
    · rw [hiv j hj] at hc
      rw [hiv k hk]
      exact h.sepI j k hj hk hne c hc
    · rw [hivi]
      intro e
      cases e
    · rw [hivi] at hc
      cases hc
    · exact absurd rfl hne
end Go.Proofs.YtmhipgompplkdaaGreatDoor
namespace Go.Proofs.YtmhipgompplkdaaGreatDoor
open Go.RowKit Go.Shelf Go.Lib Go.Maps
structure NewS (es : Nat → Addr) (W0 We : World) (dom : Nat → Prop) (L : Lay) (ru : Nat → Ru) (ins : Nat → List Inp) (i sb : Nat) (xs ux : List Inp) (L' : Lay) (wr : World) : Prop where
  made : Mk es W0 wr (fun k => dom k ∨ k = i) L' ru (updN ins i xs)
  sp : L'.sp = updN L.sp i sb
  us : ∀ k, dom k → ∀ j, j ∈ L'.us k ↔ j ∈ L.us k ∨ (j = i ∧ Inp.rule k ∈ ux)
  usi : L'.us i = []
  usl : ∀ k, dom k → (L'.us k).length ≤ (L.us k).length + ux.length
  only : Only (SBlk dom L) We wr
  blk : ∀ j, SBlk (fun k => dom k ∨ k = i) L' j → SBlk dom L j ∨ We.heap.size ≤ j
theorem NewS.below {es : Nat → Addr} {W0 We : World} {dom : Nat → Prop} {L : Lay} {ru : Nat → Ru} {ins : Nat → List Inp} {i sb : Nat} {xs ux : List Inp} {L' : Lay} {wr w' : World} (h : NewS es W0 We dom L ru ins i sb xs ux L' wr) (hb : Below wr.heap.size wr w') : NewS es W0 We dom L ru ins i sb xs ux L' w' :=
  ⟨h.made.below hb, h.sp, h.us, h.usi, h.usl, h.only.trans (Only.of hb) fun _ hj => .inl hj, h.blk⟩
theorem updN_twice {α : Type} (f : Nat → α) (i : Nat) (x y : α) : updN (updN f i x) i y = updN f i y := by
  funext j
  unfold updN
  split <;> rfl
theorem NewS.other {es : Nat → Addr} {W0 We : World} {dom : Nat → Prop} {L : Lay} {ru : Nat → Ru} {ins : Nat → List Inp} {i sb : Nat} {xs ux : List Inp} {L' : Lay} {wr : World} (h : NewS es W0 We dom L ru ins i sb xs ux L' wr) {x : Inp} (hx : ∀ k, x ≠ .rule k) : NewS es W0 We dom L ru ins i sb xs (ux ++ [x]) L' wr := by
  refine ⟨h.made, h.sp, fun k hk j => ?_, h.usi, fun k hk => ?_, h.only, h.blk⟩
  · rw [h.us k hk, List.mem_append, List.mem_singleton]
    constructor
    · rintro (h1 | ⟨h1, h2⟩)
      · exact .inl h1
      · exact .inr ⟨h1, .inl h2⟩
    · rintro (h1 | ⟨h1, h2 | h2⟩)
      · exact .inl h1
      · exact .inr ⟨h1, h2⟩
      · exact absurd h2.symm (hx k)
  · have := h.usl k hk
    rw [List.length_append, List.length_singleton]
    omega
theorem NewS.put {es : Nat → Addr} {W0 We : World} {dom : Nat → Prop} {L : Lay} {ru : Nat → Ru} {ins : Nat → List Inp} {i sb : Nat} {xs ux : List Inp} {L' : Lay} {wr w8 : World} (h : NewS es W0 We dom L ru ins i sb xs ux L' wr) (x : Inp) (hx : ∀ j, x = .rule j → dom j) {o : Obj} {g8 cap8 : Nat} (hown : w8.ownsRow 0 246 3 (.slice (some ⟨g8, 0, none⟩) (xs.length + 1) cap8) (xs.length + 1) (insC L'.sp xs ++ x.vals L'.sp)) (hg : (wr.alloc o).grownBy w8 (L'.iv i).ownBlock) (hl : (L'.iv i).ownBlock = some g8 ∨ g8 = (wr.alloc o).heap.size) :
    w8.cell? ⟨sb, 2, none⟩ = some (L'.iv i) ∧ w8.frozen? ⟨sb, 2, none⟩ = false ∧ sb < w8.heap.size ∧
    NewS es W0 We dom L ru ins i sb (xs ++ [x]) ux (L'.setI i (.slice (some ⟨g8, 0, none⟩) (xs.length + 1) cap8)) (w8.setCell ⟨sb, 2, none⟩ (.slice (some ⟨g8, 0, none⟩) (xs.length + 1) cap8)) := by
  have hspi : L'.sp i = sb := by rw [h.sp, updN_same]
  have hii : updN ins i xs i = xs := updN_same _ _ _
  obtain ⟨q1, q2, q3, q4, q5, q6⟩ := h.made.appI (k := i) (.inr rfl) x (fun j hj => .inl (hx j hj)) (o := o) (g8 := g8) (cap8 := cap8) (w8 := w8) (by rw [hii]; exact hown) hg hl
  rw [hspi] at q1 q2 q3
  rw [hspi, hii, updN_twice] at q4
  rw [hspi, hii] at q5
  rw [hii] at q6
  have hz := h.only.size
  refine ⟨q1, q2, q3, q4, h.sp, h.us, h.usi, h.usl, h.only.trans q5 h.blk, fun j hj => ?_⟩
  rcases q6 j hj with h1 | h1
  · exact h.blk j h1
  · exact .inr (by omega)
end Go.Proofs.YtmhipgompplkdaaGreatDoor
namespace Go.Proofs.YtmhipgompplkdaaGreatDoor
open Go.RowKit Go.Shelf Go.Lib Go.Maps
namespace Ru
theorem orderF_ch {l : List Ru} {some : Nat → Bool} : ∀ {f : Nat} {o r : List Nat}, orderF l some f o = Option.some r → (∀ i ∈ o, some i = true) → ∀ i ∈ r, some i = true
  | 0, _, _, h, _ => by cases h
  | f + 1, o, r, h, hb => by
    unfold orderF at h
    split at h
    · split at h
      · cases h
      · rename_i i hi
        have hm := (nextTo_some hi).2
        simp only [may, Bool.and_eq_true] at hm
        refine orderF_ch h fun j hj => ?_
        rcases List.mem_append.1 hj with h1 | h1
        · exact hb j h1
        · rw [List.mem_singleton.1 h1]; exact hm.1.1
    · cases h
      exact hb
theorem order_ch {l : List Ru} {some : Nat → Bool} {o : List Nat} (h : order l some = Option.some o) : ∀ i ∈ o, some i = true := orderF_ch h (by simp)
theorem leftTo_congr2 {f g done : Nat → Bool} : ∀ {m : Nat}, (∀ k, k < m → f k = g k) → leftTo f done m = leftTo g done m
  | 0, _ => rfl
  | m + 1, h => by
    rw [leftTo_succ, leftTo_succ, leftTo_congr2 fun k hk => h k (by omega), h m (by omega)]
theorem nextTo_congr2 {l : List Ru} {f g done : Nat → Bool} : ∀ {m : Nat}, (∀ k, k < m → f k = g k) → nextTo l f done m = nextTo l g done m
  | 0, _ => rfl
  | m + 1, h => by
    have e : may l f done m = may l g done m := by unfold may; rw [h m (by omega)]
    rw [nextTo_succ, nextTo_succ, nextTo_congr2 fun k hk => h k (by omega), e]
theorem orderF_congr2 {l : List Ru} {f g : Nat → Bool} (h : ∀ k, k < l.length → f k = g k) : ∀ (n : Nat) (o : List Nat), orderF l f n o = orderF l g n o
  | 0, _ => rfl
  | n + 1, o => by
    unfold orderF
    rw [leftTo_congr2 h, nextTo_congr2 h]
    split
    · split
      · rfl
      · exact orderF_congr2 h n _
    · rfl
theorem order_congr2 {l : List Ru} {f g : Nat → Bool} (h : ∀ k, k < l.length → f k = g k) : order l f = order l g := orderF_congr2 h _ _
end Ru
theorem Mk.congrI {es : Nat → Addr} {W0 W : World} {dom dom' : Nat → Prop} {L : Lay} {ru : Nat → Ru} {ins ins' : Nat → List Inp} (h : Mk es W0 W dom L ru ins) (hd : ∀ k, dom k ↔ dom' k) (hi : ∀ k, dom k → ins k = ins' k) : Mk es W0 W dom' L ru ins' := by
  obtain rfl : dom = dom' := funext fun k => propext (hd k)
  have hS := h.steps
  exact ⟨h.base, ⟨hS.step, hS.inj, fun i hk => by rw [← hi i hk]; exact hS.insR i hk, hS.usR, fun i hk k hm => hS.insD i hk k (by rw [hi i hk]; exact hm), hS.usD⟩, h.low, h.sepU, h.sepI⟩
theorem Mk.notMap {es : Nat → Addr} {W0 W : World} {dom : Nat → Prop} {L : Lay} {ru : Nat → Ru} {ins : Nat → List Inp} (h : Mk es W0 W dom L ru ins) {b : Nat} (hb : ∃ a c, W.heap[b]? = some (.map a c)) : ¬ SBlk dom L b := by
  obtain ⟨a, c, e0⟩ := hb
  rintro ⟨k, hk, e | e | e⟩
  · rw [e, h.steps.step k hk] at e0
    cases e0
  · obtain ⟨_, e1⟩ := own_in (h.steps.insR k hk) e
    rw [e1] at e0
    cases e0
  · obtain ⟨_, e1⟩ := own_in (h.steps.usR k hk) e
    rw [e1] at e0
    cases e0
theorem Mk.turned {es : Nat → Addr} {W0 W W' : World} {dom : Nat → Prop} {L : Lay} {ru : Nat → Ru} {ins : Nat → List Inp} (h : Mk es W0 W dom L ru ins) {b : Nat} (hb : ∃ a c, W.heap[b]? = some (.map a c)) (hz : W0.heap.size ≤ b) (ht : W.mapTurned W' b) : Mk es W0 W' dom L ru ins := by
  have hn := h.notMap hb
  have hg := ht.grown
  refine ⟨h.base.grown hg h.base.size fun j e => by cases e; exact hz, h.steps.same fun j hj => hg.block j (h.steps.lt j hj) fun e => hn ?_, h.low, h.sepU, h.sepI⟩
  have : j = b := by simpa using e
  exact this ▸ hj
def mkD (l : List Ru) (ds : List Nat) (sp : Nat → Nat) (x : List UInt8) : Option Nat :=
  match Bf.mkr l x with
  | some j => if j ∈ ds then some (sp j) else none
  | none => none
structure OfS (es : Nat → Addr) (W0 : World) (l : List Ru) (fs : Tf.Fs) (ru : Nat → Ru) (bm mb : Nat) (ds : List Nat) (L : Lay) (wr : World) : Prop where
  made : Mk es W0 wr (fun k => k ∈ ds) L ru (fun k => (ru k).ins.map (inpOf l fs))
  smap : SMap wr bm ds.length (fun k => k ∈ ds) L.sp
  mmap : MMap wr mb ds.length (mkD l ds L.sp)
  us : ∀ k, k ∈ ds → ∀ j, j ∈ L.us k ↔ j ∈ ds ∧ Ru.needs l j k = true
  usl : ∀ k, k ∈ ds → (L.us k).length ≤ 12 * ds.length
  ne : bm ≠ mb
  lb : W0.heap.size ≤ bm
  lm : W0.heap.size ≤ mb
theorem OfS.start (es : Nat → Addr) (W0 : World) (l : List Ru) (fs : Tf.Fs) (ru : Nat → Ru) (L : Lay) : OfS es W0 l fs ru W0.heap.size (W0.heap.size + 1) [] L ((W0.alloc (.map #[] 0)).alloc (.map #[] 0)) := by
  have b1 : Below W0.heap.size W0 (W0.alloc (.map #[] 0)) := (Below.refl _ W0).alloc (Nat.le_refl _) _
  have b2 : Below (W0.alloc (.map #[] 0)).heap.size (W0.alloc (.map #[] 0)) ((W0.alloc (.map #[] 0)).alloc (.map #[] 0)) := (Below.refl _ _).alloc (Nat.le_refl _) _
  have hz : (W0.alloc (.map #[] 0)).heap.size = W0.heap.size + 1 := by simp
  refine ⟨⟨below_then b1 b2, ⟨by simp, by simp, by simp, by simp, by simp, by simp⟩, ?_, by simp, by simp⟩, ?_, ?_, by simp, by simp, by omega, by omega, by omega⟩
  · rintro j ⟨i, hi, _⟩
    cases hi
  · have := (SMap.made W0 L.sp).same (b2.block W0.heap.size (by omega))
    simpa using this
  · have := MMap.made (W0.alloc (.map #[] 0))
    rw [hz] at this
    have e : mkD l [] L.sp = fun _ => none := by
      funext x
      unfold mkD
      split <;> simp
    rw [e]
    exact this
theorem OfS.next {es : Nat → Addr} {W0 : World} {l : List Ru} {fs : Tf.Fs} {ru : Nat → Ru} {bm mb : Nat} {ds : List Nat} {L : Lay} {wr w2 : World} (h : OfS es W0 l fs ru bm mb ds L wr) (hru : ∀ k (hk : k < l.length), ru k = l[k]) (hA : Ru.Apart l) {i : Nat} (hi : i < l.length) (hid : i ∉ ds) (hio : (l[i]).out.length ≤ 1000000) (h12 : (l[i]).ins.length ≤ 12) (hil : i ≤ 1000000) (hself : Ru.needs l i i = false) (hds : ∀ k ∈ ds, k < l.length ∧ Ru.needs l k i = false) (hlen : ds.length < 1000000) {sb : Nat} {L' : Lay}
    (hN : NewS es W0 wr (fun k => k ∈ ds) L ru (fun k => (ru k).ins.map (inpOf l fs)) i sb ((ru i).ins.map (inpOf l fs)) ((ru i).ins.map (inpOf l fs)) L' w2) :
    ∃ w3, (Instr.mapUpdate 192 (.map (some bm)) (.int .i64 (i : Nat)) (Ptr sb)).run Tryz.prog w2 = .ok () w3 ∧ Below W0.heap.size W0 w3 ∧ ∃ w4, (Instr.mapUpdate 242 (.map (some mb)) (.string (ba (l[i]).out)) (Ptr sb)).run Tryz.prog w3 = .ok () w4 ∧ OfS es W0 l fs ru bm mb (ds ++ [i]) L' w4 := by
  have hml : ds.length < maxLen := by unfold maxLen; omega
  have hnb := h.made.notMap h.smap.isMap
  have hnm := h.made.notMap h.mmap.isMap
  have s2 := h.smap.same (hN.only.block bm h.smap.lt hnb)
  have m2 := h.mmap.same (hN.only.block mb h.mmap.lt hnm)
  obtain ⟨w3, r3, s3, t3⟩ := s2.laid hml i sb hil
  have m3 := m2.same (t3.grown.block mb m2.lt (by simpa using h.ne.symm))
  have k3 := hN.made.turned s2.isMap h.lb t3
  obtain ⟨w4, r4, m4, t4⟩ := m3.laid hml (l[i]).out hio sb
  have s4 := s3.same (t4.grown.block bm s3.lt (by simpa using h.ne))
  have k4 := k3.turned m3.isMap h.lm t4
  have hmem : ∀ k, (k ∈ ds ∨ k = i) ↔ k ∈ ds ++ [i] := fun k => by simp
  refine ⟨w3, r3, k3.base, w4, r4, ?_, ?_, ?_, ?_, ?_, h.ne, h.lb, h.lm⟩
  · refine k4.congrI hmem fun k hk => ?_
    by_cases e : k = i
    · subst e
      rw [updN_same]
    · rw [updN_other e]
  · have e : (fun k => k ∈ ds ∨ k = i) = fun k => k ∈ ds ++ [i] := funext fun k => propext (hmem k)
    rw [List.length_append, List.length_singleton, hN.sp, ← e]
    exact s4
  · have e : (fun y => if y = (l[i]).out then some sb else mkD l ds L.sp y) = mkD l (ds ++ [i]) L'.sp := by
      funext y
      by_cases hy : y = (l[i]).out
      · rw [if_pos hy]
        unfold mkD
        rw [hy, show Bf.mkr l (l[i]).out = some i from Ru.mkr_eq hA hi]
        simp only [List.mem_append, List.mem_singleton, or_true, if_true]
        rw [hN.sp, updN_same]
      · rw [if_neg hy]
        unfold mkD
        cases hm : Bf.mkr l y with
        | none => rfl
        | some j =>
          obtain ⟨hj, e1, _⟩ := Ru.mkr_some (show Ru.mkr l y = some j from hm)
          have hji : j ≠ i := fun e => hy (by subst e; exact e1.symm)
          simp only [List.mem_append, List.mem_singleton, hji, or_false]
          rw [hN.sp, updN_other hji]
    rw [List.length_append, List.length_singleton, ← e]
    exact m4
  · intro k hk j
    rcases List.mem_append.1 hk with hk | hk
    · rw [hN.us k hk, h.us k hk, List.mem_append, List.mem_singleton]
      have hin : Inp.rule k ∈ (ru i).ins.map (inpOf l fs) ↔ Ru.needs l i k = true := by
        have hkl := (hds k hk).1
        rw [Ru.needs_eq hi hkl, hru i hi, List.mem_map]
        constructor
        · rintro ⟨x, hx, e⟩
          unfold inpOf at e
          split at e
          · rename_i q hq
            obtain ⟨_, e1, _⟩ := Ru.mkr_some (show Ru.mkr l x = some q from hq)
            have : q = k := by simpa using e
            subst this
            rw [e1]
            simpa using hx
          · split at e <;> cases e
        · intro hx
          refine ⟨l[k].out, by simpa using hx, ?_⟩
          unfold inpOf
          rw [show Bf.mkr l l[k].out = some k from Ru.mkr_eq hA hkl]
      rw [hin]
      constructor
      · rintro (⟨h1, h2⟩ | ⟨h1, h2⟩)
        · exact ⟨.inl h1, h2⟩
        · exact ⟨.inr h1, by rw [h1]; exact h2⟩
      · rintro ⟨h1 | h1, h2⟩
        · exact .inl ⟨h1, h2⟩
        · exact .inr ⟨h1, by rw [h1] at h2; exact h2⟩
    · obtain rfl := List.mem_singleton.1 hk
      rw [hN.usi]
      constructor
      · intro h1; cases h1
      · rintro ⟨h1, h2⟩
        rcases List.mem_append.1 h1 with h1 | h1
        · rw [(hds j h1).2] at h2
          cases h2
        · rw [List.mem_singleton.1 h1, hself] at h2
          cases h2
  · intro k hk
    rw [List.length_append, List.length_singleton]
    rcases List.mem_append.1 hk with hk | hk
    · have h1 := hN.usl k hk
      have h2 := h.usl k hk
      rw [List.length_map, hru i hi] at h1
      omega
    · rw [List.mem_singleton.1 hk, hN.usi]
      simp
end Go.Proofs.YtmhipgompplkdaaGreatDoor
namespace Go.Proofs.YtmhipgompplkdaaGreatDoor
namespace Lb
abbrev fs : Tf.Fs := [([97], [120])]
abbrev r : Ru := ⟨[98], [117, 112, 112, 101, 114], [], [[97]]⟩
abbrev l : List Ru := [r]
abbrev outs : List (List UInt8) := [[98]]
abbrev key : List UInt8 := Kp.key [117, 112, 112, 101, 114] [] [[120]]
abbrev d : Bf.Bd := ⟨fs, l, fun k => if k = 0 then .waits else .no⟩
theorem fault0 : (Ru.fault l).1 = 0 := by kernel_rfl
theorem needs0 (i k : Nat) : Ru.needs l i k = false := by
  cases hn : Ru.needs l i k with
  | false => rfl
  | true =>
    obtain ⟨h1, h2⟩ := Ru.needs_lt hn
    obtain rfl : i = 0 := by simp at h1; omega
    obtain rfl : k = 0 := by simp at h2; omega
    have : Ru.needs l 0 0 = false := by decide
    rw [this] at hn
    cases hn
theorem needed : Ru.Needed l outs (fun k => decide (k = 0)) := by
  have hb : Ru.base l outs 0 = true := by decide
  refine ⟨fun k hk => ?_, fun i k _ h => ?_, fun P h1 _ k hk h => ?_⟩
  · cases k with
    | zero => rfl
    | succ k =>
      simp [Ru.base] at hk
  · rw [needs0] at h
    cases h
  · obtain rfl : k = 0 := by simp at hk; omega
    exact h1 0 hb
theorem need0 : Bf.need l outs 0 = true := by
  rw [Bf.need_eq needed (by decide)]
  rfl
theorem init0 : Bf.init fs l outs = d := by
  unfold Bf.init
  congr 1
  funext k
  by_cases h : k = 0
  · subst h
    rw [need0]
    rfl
  · rw [Bf.need_out (by simp; omega)]
    simp [h]
theorem order0 : (Ru.order l (Bf.need l outs)).isSome = true := by
  rw [Ru.order_congr2 (g := fun k => decide (k = 0)) fun k hk => Bf.need_eq needed hk]
  decide
end Lb
end Go.Proofs.YtmhipgompplkdaaGreatDoor
