import Derived.Test.YtmhipgompplkdaaGreatDoorWL09
import Derived.Test.YtmhipgompplkdaaGreatDoorWL23
import Derived.Test.YtmhipgompplkdaaGreatDoorWL29
import Derived.Test.YtmhipgompplkdaaGreatDoorWL21
namespace Go.Proofs.YtmhipgompplkdaaGreatDoor
namespace Bf
structure Inv (d : Bd) : Prop where
  out : ∀ i, d.l.length ≤ i → d.st i = .no
  need : ∀ i k, Ru.needs d.l i k = true → (d.st i).isNo = false → (d.st k).isNo = false
  ran : ∀ i k, Ru.needs d.l i k = true → ((d.st i).isDone || (d.st i).isFailed) = true → (d.st k).isDone = true
  bad : ∀ i k, Ru.needs d.l i k = true → (d.st k).isBad = true → (d.st i).isNo = false → d.st i = .left
theorem Inv.init {d : Bd} (h1 : ∀ i, d.l.length ≤ i → d.st i = .no) (h2 : ∀ i k, Ru.needs d.l i k = true → (d.st i).isNo = false → (d.st k).isNo = false) (h3 : ∀ i, d.st i = .no ∨ d.st i = .waits) : Inv d := by
  refine ⟨h1, h2, fun i k _ h => ?_, fun i k _ h => ?_⟩
  · rcases h3 i with e | e <;> rw [e] at h <;> cases h
  · rcases h3 k with e | e <;> rw [e] at h <;> cases h
theorem Inv.set {d : Bd} (h : Inv d) {i : Nat} (hr : d.isReady i = true) (s : List UInt8) (b : Bool) : Inv (d.set i (.done s b)) := by
  have hw := ready_waits hr
  have hil : i < d.l.length := Nat.lt_of_not_le fun e => by have := h.out i e; rw [hw] at this; cases this
  have hno : ∀ k, (setS d.st i (.done s b) k).isNo = (d.st k).isNo := fun k => by
    by_cases e : k = i
    · rw [e, setS_same, hw]; rfl
    · rw [setS_other e]
  refine ⟨fun k hk => ?_, fun a k hn ha => ?_, fun a k hn ha => ?_, fun a k hn hb ha => ?_⟩
  · show setS d.st i _ k = _
    rw [setS_other (by have : d.l.length ≤ k := hk; omega)]
    exact h.out k hk
  · have ha' : (setS d.st i (.done s b) a).isNo = false := ha
    show (setS d.st i (.done s b) k).isNo = false
    rw [hno] at ha' ⊢
    exact h.need a k hn ha'
  · show (setS d.st i (.done s b) k).isDone = true
    by_cases ek : k = i
    · rw [ek, setS_same]; rfl
    · rw [setS_other ek]
      by_cases ea : a = i
      · subst ea
        exact ready_free hr (Ru.needs_lt hn).2 hn
      · have ha' : ((setS d.st i (.done s b) a).isDone || (setS d.st i (.done s b) a).isFailed) = true := ha
        rw [setS_other ea] at ha'
        exact h.ran a k hn ha'
  · have hb' : (setS d.st i (.done s b) k).isBad = true := hb
    have ha' : (setS d.st i (.done s b) a).isNo = false := ha
    show setS d.st i (.done s b) a = .left
    rw [hno] at ha'
    by_cases ek : k = i
    · rw [ek, setS_same] at hb'; cases hb'
    · rw [setS_other ek] at hb'
      have := h.bad a k hn hb' ha'
      rw [setS_other fun e => by rw [e, hw] at this; cases this]
      exact this
inductive Up (us : Nat → List Nat) (s : Nat) : Nat → Prop
  | one {k : Nat} : k ∈ us s → Up us s k
  | more {j k : Nat} : Up us s j → k ∈ us j → Up us s k
theorem Up.trans {us : Nat → List Nat} {s u : Nat} (hu : u ∈ us s) : ∀ {k : Nat}, Up us u k → Up us s k
  | _, .one h => .more (.one hu) h
  | _, .more h h' => .more (Up.trans hu h) h'
structure Leave (us : Nat → List Nat) (s : Nat) (ms : List Nat) (a b : Nat → St) : Prop where
  only : ∀ k, b k = a k ∨ ((a k).isLeft = false ∧ b k = .left ∧ Up us s k)
  closed : ∀ j, (a j).isLeft = false → b j = .left → ∀ k ∈ us j, b k = .left
  first : ∀ k ∈ ms, b k = .left
theorem St.left_eq {s : St} (h : s.isLeft = true) : s = .left := by cases s <;> first | rfl | cases h
theorem Leave.start (us : Nat → List Nat) (s : Nat) (a : Nat → St) : Leave us s [] a a := ⟨fun _ => .inl rfl, fun j h e => (by rw [e] at h; cases h), fun k hk => (by cases hk)⟩
theorem Leave.mono {us : Nat → List Nat} {s : Nat} {ms : List Nat} {a b : Nat → St} (h : Leave us s ms a b) {k : Nat} (hk : a k = .left) : b k = .left := by
  rcases h.only k with e | ⟨_, e, _⟩
  · rw [e, hk]
  · exact e
theorem Leave.go {us : Nat → List Nat} {s : Nat} {ms : List Nat} {a b c : Nat → St} (h : Leave us s ms a b) {u : Nat} (hu : u ∈ us s) (hn : (b u).isLeft = false) (h' : Leave us u (us u) (setS b u .left) c) : Leave us s (ms ++ [u]) a c := by
  have hun : (a u).isLeft = false := by
    rcases h.only u with e | ⟨e, _, _⟩
    · rw [← e]; exact hn
    · exact e
  have hcu : c u = .left := h'.mono (setS_same _ _ _)
  have hm : ∀ k, b k = .left → c k = .left := fun k hk => by
    by_cases e : k = u
    · rw [e]; exact hcu
    · exact h'.mono (by rw [setS_other e]; exact hk)
  refine ⟨fun k => ?_, fun j hj hc k hk => ?_, fun k hk => ?_⟩
  · by_cases e : k = u
    · subst e
      exact .inr ⟨hun, hcu, .one hu⟩
    · rcases h'.only k with e1 | ⟨e1, e2, e3⟩
      · rw [setS_other e] at e1
        rw [e1]
        exact h.only k
      · rw [setS_other e] at e1
        refine .inr ⟨?_, e2, e3.trans hu⟩
        rcases h.only k with e4 | ⟨e4, _, _⟩
        · rw [← e4]; exact e1
        · exact e4
  · by_cases e : j = u
    · subst e
      exact h'.first k hk
    · cases hb : (b j).isLeft with
      | true => exact hm k (h.closed j hj (St.left_eq hb) k hk)
      | false => exact h'.closed j (by rw [setS_other e]; exact hb) hc k hk
  · rcases List.mem_append.1 hk with h1 | h1
    · exact hm k (h.first k h1)
    · rw [List.mem_singleton.1 h1]; exact hcu
def UsOk (d : Bd) (us : Nat → List Nat) : Prop := ∀ i, (d.st i).isNo = false → ∀ k, k ∈ us i ↔ (d.st k).isNo = false ∧ Ru.needs d.l k i = true
theorem Inv.up {d : Bd} (h : Inv d) {us : Nat → List Nat} (hu : UsOk d us) {i : Nat} (hw : d.st i = .waits) : ∀ {k : Nat}, Up us i k → (d.st k).isNo = false ∧ (d.st k = .waits ∨ d.st k = .left)
  | k, .one hk => by
    have h1 := (hu i (by rw [hw]; rfl) k).1 hk
    refine ⟨h1.1, ?_⟩
    have h2 := h.ran k i h1.2
    rw [hw] at h2
    cases hs : d.st k with
    | no => rw [hs] at h1; cases h1.1
    | waits => exact .inl rfl
    | done s b => rw [hs] at h2; cases h2 rfl
    | failed c => rw [hs] at h2; cases h2 rfl
    | left => exact .inr rfl
  | k, @Up.more _ _ j _ hj hk => by
    have h0 := h.up hu hw hj
    have h1 := (hu j h0.1 k).1 hk
    refine ⟨h1.1, ?_⟩
    have h2 := h.ran k j h1.2
    have h3 : (d.st j).isDone = false := by rcases h0.2 with e | e <;> rw [e] <;> rfl
    rw [h3] at h2
    cases hs : d.st k with
    | no => rw [hs] at h1; cases h1.1
    | waits => exact .inl rfl
    | done s b => rw [hs] at h2; cases h2 rfl
    | failed c => rw [hs] at h2; cases h2 rfl
    | left => exact .inr rfl
theorem Leave.spread {d : Bd} (hI : Inv d) {us : Nat → List Nat} (hu : UsOk d us) {i : Nat} (hr : d.isReady i = true) {c : Nat} {b : Nat → St} (h : Leave us i (us i) (setS d.st i (.failed c)) b) (k : Nat) (hk : (d.st k).isNo = false) : b k = Bf.spread d.l (setS d.st i (.failed c)) k := by
  have hw := ready_waits hr
  have hself : Ru.needs d.l i i = false := by
    rw [Bool.eq_false_iff]
    intro hn
    have := ready_free hr (Ru.needs_lt hn).2 hn
    rw [hw] at this
    cases this
  have hnot : ∀ k, Up us i k → k ≠ i := by
    intro k hk e
    subst e
    have : ∃ j, (d.st j).isDone = false ∧ Ru.needs d.l k j = true := by
      cases hk with
      | one h1 => exact ⟨k, by rw [hw]; rfl, ((hu k (by rw [hw]; rfl) k).1 h1).2⟩
      | @more j _ hj h1 =>
        have h0 := hI.up hu hw hj
        exact ⟨j, by rcases h0.2 with e | e <;> rw [e] <;> rfl, ((hu j h0.1 k).1 h1).2⟩
    obtain ⟨j, h1, h2⟩ := this
    rw [ready_free hr (Ru.needs_lt h2).2 h2] at h1
    cases h1
  have hup : ∀ k, Up us i k → (setS d.st i (.failed c) k).isLeft = false → Chain d.l (setS d.st i (.failed c)) k ∧ (setS d.st i (.failed c) k).isWaits = true := by
    intro k hk
    induction hk with
    | @one k hk =>
      intro hl
      have hne := hnot k (.one hk)
      have h1 := (hu i (by rw [hw]; rfl) k).1 hk
      refine ⟨.one h1.2 (by rw [setS_same]; rfl), ?_⟩
      rw [setS_other hne] at hl ⊢
      rcases (hI.up hu hw (.one hk)).2 with e | e
      · rw [e]; rfl
      · rw [e] at hl; cases hl
    | @more j k hj hk ih =>
      intro hl
      have hne := hnot k (.more hj hk)
      have hji := hnot j hj
      have h0 := hI.up hu hw hj
      have h1 := (hu j h0.1 k).1 hk
      rw [setS_other hne] at hl
      have hwk : d.st k = .waits := by
        rcases (hI.up hu hw (.more hj hk)).2 with e | e
        · exact e
        · rw [e] at hl; cases hl
      have hjl : (setS d.st i (.failed c) j).isLeft = false := by
        rw [setS_other hji]
        rcases h0.2 with e | e
        · rw [e]; rfl
        · have := hI.bad k j h1.2 (by rw [e]; rfl) h1.1
          rw [hwk] at this
          cases this
      obtain ⟨c1, c2⟩ := ih hjl
      exact ⟨.more h1.2 c2 c1, by rw [setS_other hne, hwk]; rfl⟩
  have hdn : ∀ k, Chain d.l (setS d.st i (.failed c)) k → (d.st k).isNo = false → (setS d.st i (.failed c) k).isWaits = true → b k = .left := by
    intro k hk
    induction hk with
    | @one k j hn hb =>
      intro h1 h2
      have hki : k ≠ i := fun e => by rw [e, setS_same] at h2; cases h2
      rw [setS_other hki] at h2
      by_cases e : j = i
      · subst e
        exact h.first k ((hu j (by rw [hw]; rfl) k).2 ⟨h1, hn⟩)
      · rw [setS_other e] at hb
        have := hI.bad k j hn hb h1
        rw [this] at h2
        cases h2
    | @more k j hn hwj hc ih =>
      intro h1 h2
      have hji : j ≠ i := fun e => by rw [e, setS_same] at hwj; cases hwj
      have hwj' := hwj
      rw [setS_other hji] at hwj'
      have hjn : (d.st j).isNo = false := by rw [St.waits_eq hwj']; rfl
      exact h.closed j (by rw [St.waits_eq hwj]; rfl) (ih hjn hwj) k ((hu j hjn k).2 ⟨h1, hn⟩)
  by_cases hch : (setS d.st i (.failed c) k).isWaits = true ∧ Chain d.l (setS d.st i (.failed c)) k
  · rw [hdn k hch.2 hk hch.1]
    unfold Bf.spread
    rw [if_pos hch]
  · unfold Bf.spread
    rw [if_neg hch]
    rcases h.only k with e | ⟨e1, e2, e3⟩
    · exact e
    · have := hup k e3 e1
      exact absurd ⟨this.2, this.1⟩ hch
theorem spread_no (l : List Ru) (st : Nat → St) (k : Nat) : (Bf.spread l st k).isNo = (st k).isNo := by
  unfold Bf.spread
  split
  · rename_i h
    rw [St.waits_eq h.1]; rfl
  · rfl
theorem spread_or (l : List Ru) (st : Nat → St) (k : Nat) : Bf.spread l st k = st k ∨ ((st k).isWaits = true ∧ Chain l st k ∧ Bf.spread l st k = .left) := by
  unfold Bf.spread
  split
  · rename_i h
    exact .inr ⟨h.1, h.2, rfl⟩
  · exact .inl rfl
theorem Inv.fail {d : Bd} (h : Inv d) {i : Nat} (hr : d.isReady i = true) (c : Nat) : Inv (d.fail i c) := by
  have hw := ready_waits hr
  have hil : i < d.l.length := Nat.lt_of_not_le fun e => by have := h.out i e; rw [hw] at this; cases this
  have hno : ∀ k, (Bf.spread d.l (setS d.st i (.failed c)) k).isNo = (d.st k).isNo := fun k => by
    rw [spread_no]
    by_cases e : k = i
    · rw [e, setS_same, hw]; rfl
    · rw [setS_other e]
  have hself : ∀ k, Ru.needs d.l i k = true → (d.st k).isDone = true := fun k hn => ready_free hr (Ru.needs_lt hn).2 hn
  refine ⟨fun k hk => ?_, fun a k hn ha => ?_, fun a k hn ha => ?_, fun a k hn hb ha => ?_⟩
  · have hk' : d.l.length ≤ k := hk
    show Bf.spread d.l _ k = _
    rw [spread_keeps (by rw [setS_other (by omega), h.out k hk']; rfl), setS_other (by omega)]
    exact h.out k hk'
  · have ha' : (Bf.spread d.l (setS d.st i (.failed c)) a).isNo = false := ha
    show (Bf.spread d.l (setS d.st i (.failed c)) k).isNo = false
    rw [hno] at ha' ⊢
    exact h.need a k hn ha'
  · have ha' : ((Bf.spread d.l (setS d.st i (.failed c)) a).isDone || (Bf.spread d.l (setS d.st i (.failed c)) a).isFailed) = true := ha
    show (Bf.spread d.l (setS d.st i (.failed c)) k).isDone = true
    have hdk : (d.st k).isDone = true := by
      by_cases e : a = i
      · subst e
        exact hself k hn
      · rcases spread_or d.l (setS d.st i (.failed c)) a with e1 | ⟨_, _, e1⟩
        · rw [e1, setS_other e] at ha'
          exact h.ran a k hn ha'
        · rw [e1] at ha'; cases ha'
    have hki : k ≠ i := fun e => by rw [e, hw] at hdk; cases hdk
    rw [spread_keeps (by rw [setS_other hki]; cases hs : d.st k <;> rw [hs] at hdk <;> first | rfl | cases hdk), setS_other hki]
    exact hdk
  · have hb' : (Bf.spread d.l (setS d.st i (.failed c)) k).isBad = true := hb
    have ha' : (Bf.spread d.l (setS d.st i (.failed c)) a).isNo = false := ha
    show Bf.spread d.l (setS d.st i (.failed c)) a = .left
    rw [hno] at ha'
    have hai : a ≠ i := fun e => by
      subst e
      have h1 := hself k hn
      have hki : k ≠ a := fun e => by rw [e, hw] at h1; cases h1
      rw [spread_keeps (by rw [setS_other hki]; cases hs : d.st k <;> rw [hs] at h1 <;> first | rfl | cases h1), setS_other hki] at hb'
      cases hs : d.st k <;> rw [hs] at h1 hb' <;> first | (cases hb'; done) | (cases h1; done)
    have hleft : ∀ hc : Chain d.l (setS d.st i (.failed c)) a, d.st a = .waits → Bf.spread d.l (setS d.st i (.failed c)) a = .left := fun hc e => by
      unfold Bf.spread
      rw [if_pos ⟨by rw [setS_other hai, e]; rfl, hc⟩]
    have hkeep : d.st a = .left → Bf.spread d.l (setS d.st i (.failed c)) a = .left := fun e => by
      rw [spread_keeps (by rw [setS_other hai, e]; rfl), setS_other hai, e]
    have hcase : (d.st k).isDone = false → d.st a = .waits ∨ d.st a = .left := fun hd => by
      have h2 := h.ran a k hn
      rw [hd] at h2
      cases hs : d.st a with
      | no => rw [hs] at ha'; cases ha'
      | waits => exact .inl rfl
      | done s b => rw [hs] at h2; cases h2 rfl
      | failed c => rw [hs] at h2; cases h2 rfl
      | left => exact .inr rfl
    by_cases e : k = i
    · subst e
      rcases hcase (by rw [hw]; rfl) with e1 | e1
      · exact hleft (.one hn (by rw [setS_same]; rfl)) e1
      · exact hkeep e1
    · rcases spread_or d.l (setS d.st i (.failed c)) k with e1 | ⟨e1, e2, _⟩
      · rw [e1, setS_other e] at hb'
        exact hkeep (h.bad a k hn hb' ha')
      · have hwk := e1
        rw [setS_other e] at hwk
        rcases hcase (by rw [St.waits_eq hwk]; rfl) with e3 | e3
        · exact hleft (.more hn e1 e2) e3
        · exact hkeep e3
theorem Inv.go {d : Bd} (h : Inv d) (act : Act) (c : Ca) {i : Nat} (hr : d.isReady i = true) : Inv (go act c d i).d := by
  unfold Bf.go
  split
  · exact h.fail hr _
  · split
    · exact h.set hr _ _
    · split
      · exact h.set hr _ _
      · exact h.fail hr _
end Bf
end Go.Proofs.YtmhipgompplkdaaGreatDoor
namespace Go.Proofs.YtmhipgompplkdaaGreatDoor
open Go.RowKit Go.Shelf Go.Lib Go.Maps
def PBlk (dom : Nat → Prop) (L : Lay) (j : Nat) : Prop := ∃ i, dom i ∧ j = L.sp i
theorem PBlk.s {dom : Nat → Prop} {L : Lay} {j : Nat} (h : PBlk dom L j) : SBlk dom L j := by
  obtain ⟨i, hi, e⟩ := h
  exact ⟨i, hi, .inl e⟩
theorem Only.setCell {S : Nat → Prop} {W : World} (a : Addr) (v : Value) (hS : S a.block) : Only S W (W.setCell a v) :=
  ⟨rfl, rfl, rfl, by simp, fun j _ hj => Below.heap_setCell W a v j fun e => hj (e ▸ hS)⟩
theorem Only.refl (S : Nat → Prop) (W : World) : Only S W W := ⟨rfl, rfl, rfl, Nat.le_refl _, fun _ _ _ => rfl⟩
theorem Steps.lefts {W : World} {es : Nat → Addr} {dom : Nat → Prop} {L : Lay} {ru : Nat → Ru} {ins : Nat → List Inp} {st : Nat → Bf.St} (h : Steps W es dom L ru ins st) {u : Nat} (hu : dom u) (hw : st u = .waits) : Steps (W.setCell ⟨L.sp u, 4, none⟩ (.int .i64 4)) es dom L ru ins (Bf.setS st u .left) := by
  refine h.turn hu .left ?_ fun j hj _ => Below.heap_setCell W _ _ j hj
  rw [heap_setCell_same W _ _ _ _ _ (h.step u hu), hw]
  rfl
end Go.Proofs.YtmhipgompplkdaaGreatDoor
namespace Go.Proofs.YtmhipgompplkdaaGreatDoor
open Go.RowKit Go.Shelf Go.Lib Go.Maps
def inpOf (l : List Ru) (fs : Tf.Fs) (x : List UInt8) : Inp :=
  match Bf.mkr l x with
  | some k => .rule k
  | none => match Tf.get fs x with
    | some b => .file b
    | none => .gone
def insOf (d : Bf.Bd) (i : Nat) : List Inp := (d.rule i).ins.map (inpOf d.l d.fs)
abbrev Bf.Bd.dm (d : Bf.Bd) (k : Nat) : Bool := !(d.st k).isNo
abbrev Bf.Bd.dom (d : Bf.Bd) (k : Nat) : Prop := d.dm k = true
theorem Bf.Bd.dom_no {d : Bf.Bd} {k : Nat} (h : d.dom k) : (d.st k).isNo = false := by simpa using h
theorem Bf.Bd.dom_of {d : Bf.Bd} {k : Nat} (h : (d.st k).isNo = false) : d.dom k := by simpa using h
theorem mem_insOf {d : Bf.Bd} {i k : Nat} (h : Inp.rule k ∈ insOf d i) : ∃ x ∈ (d.rule i).ins, Bf.mkr d.l x = some k := by
  obtain ⟨x, hx, e⟩ := List.mem_map.1 h
  refine ⟨x, hx, ?_⟩
  unfold inpOf at e
  split at e
  · rename_i j hj
    rw [hj]
    simpa using e
  · split at e <;> cases e
theorem free_insOf {d : Bf.Bd} (hA : Ru.Apart d.l) {i : Nat} (hi : i < d.l.length) : (!(insOf d i).any (Inp.holds d.st)) = Bf.freeTo d.l d.st i d.l.length := by
  have hr : d.rule i = d.l[i] := by unfold Bf.Bd.rule; simp [hi]
  rw [Bool.eq_iff_iff]
  unfold Bf.freeTo
  simp only [Bool.not_eq_true', List.any_eq_false, List.all_eq_true, List.mem_range]
  constructor
  · intro h k hk
    cases hn : Ru.needs d.l i k with
    | false => rfl
    | true =>
      have hin := hn
      rw [Ru.needs_eq hi hk] at hin
      have hmem : Inp.rule k ∈ insOf d i := by
        refine List.mem_map.2 ⟨d.l[k].out, by rw [hr]; simpa using hin, ?_⟩
        unfold inpOf
        rw [show Bf.mkr d.l d.l[k].out = some k from Ru.mkr_eq hA hk]
      have := h _ hmem
      simpa [Inp.holds] using this
  · intro h x hx
    cases x with
    | file b => simp [Inp.holds]
    | gone => simp [Inp.holds]
    | rule k =>
      obtain ⟨y, hy, e⟩ := mem_insOf hx
      obtain ⟨hk, e1, _⟩ := Ru.mkr_some (show Ru.mkr d.l y = some k from e)
      have hn : Ru.needs d.l i k = true := by
        rw [Ru.needs_eq hi hk, e1]
        rw [hr] at hy
        simpa using hy
      have := h k hk
      rw [hn] at this
      simpa [Inp.holds] using this
structure BuM (es : Nat → Addr) (W : World) (bb bm n : Nat) (L : Lay) (cv : Value) (d : Bf.Bd) : Prop where
  c0 : W.cell? ⟨bb, 0, none⟩ = some (.map (some bm))
  c1 : W.cell? ⟨bb, 1, none⟩ = some cv
  map : SMap W bm n d.dom L.sp
  steps : Steps W es d.dom L d.rule (insOf d) d.st
  us : Bf.UsOk d L.us
  usl : ∀ i, d.dom i → (L.us i).length ≤ 1000
  inv : Bf.Inv d
  apart : Ru.Apart d.l
  few : ∀ i, d.dom i → (insOf d i).length ≤ 1000
def BBlk (bb bm : Nat) (d : Bf.Bd) (L : Lay) (j : Nat) : Prop := j = bb ∨ j = bm ∨ SBlk d.dom L j
theorem BuM.lt {es : Nat → Addr} {W : World} {bb bm n : Nat} {L : Lay} {cv : Value} {d : Bf.Bd} (h : BuM es W bb bm n L cv d) : ∀ j, BBlk bb bm d L j → j < W.heap.size := by
  rintro j (rfl | rfl | hj)
  · exact lt_of_cell h.c0
  · exact h.map.lt
  · exact h.steps.lt j hj
theorem BuM.same {es : Nat → Addr} {W W' : World} {bb bm n : Nat} {L : Lay} {cv : Value} {d : Bf.Bd} (h : BuM es W bb bm n L cv d) (hb : ∀ j, BBlk bb bm d L j → W'.heap[j]? = W.heap[j]?) : BuM es W' bb bm n L cv d := by
  have hc := hb bb (.inl rfl)
  exact ⟨(World.cell?_of_block (a := ⟨bb, 0, none⟩) hc).trans h.c0, (World.cell?_of_block (a := ⟨bb, 1, none⟩) hc).trans h.c1, h.map.same (hb bm (.inr (.inl rfl))), h.steps.same fun j hj => hb j (.inr (.inr hj)), h.us, h.usl, h.inv, h.apart, h.few⟩
theorem BuM.below {es : Nat → Addr} {W W' : World} {bb bm n : Nat} {L : Lay} {cv : Value} {d : Bf.Bd} (h : BuM es W bb bm n L cv d) (hb : Below W.heap.size W W') : BuM es W' bb bm n L cv d := h.same fun j hj => hb.block j (h.lt j hj)
theorem BuM.lo {es : Nat → Addr} {W : World} {bb bm n : Nat} {L : Lay} {cv : Value} {d : Bf.Bd} (h : BuM es W bb bm n L cv d) {i : Nat} (hi : d.dom i) : i < d.l.length := by
  refine Nat.lt_of_not_le fun e => ?_
  have := Bf.Bd.dom_no hi
  rw [h.inv.out i e] at this
  cases this
theorem BuM.isReady {es : Nat → Addr} {W : World} {bb bm n : Nat} {L : Lay} {cv : Value} {d : Bf.Bd} (h : BuM es W bb bm n L cv d) {i : Nat} (hi : d.dom i) : ((d.st i).isWaits && !(insOf d i).any (Inp.holds d.st)) = d.isReady i := by
  rw [free_insOf h.apart (h.lo hi)]
  rfl
theorem BuM.look {es : Nat → Addr} {W : World} {bb bm n : Nat} {L : Lay} {cv : Value} {d : Bf.Bd} (h : BuM es W bb bm n L cv d) (i : Int) (h0 : -9223372036854775808 ≤ i) (h1 : i ≤ 9223372036854775807) :
    (d.at i = .no ∧ (Instr.lookup 192 (.map (some bm)) (.int .i64 i) true).run Tryz.prog W = .ok (.tuple #[.pointer none, .bool false]) W) ∨
    ∃ k : Nat, i = k ∧ d.dom k ∧ k < d.l.length ∧ d.at i = d.st k ∧ (Instr.lookup 192 (.map (some bm)) (.int .i64 i) true).run Tryz.prog W = .ok (.tuple #[Ptr (L.sp k), .bool true]) W := by
  rcases h.map.look i h0 h1 with ⟨hd, hl⟩ | ⟨hd, hl⟩
  · have hk := h.lo hd.2
    refine .inr ⟨i.toNat, by omega, hd.2, hk, ?_, hl⟩
    unfold Bf.Bd.at
    rw [if_neg (by omega)]
  · refine .inl ⟨?_, hl⟩
    unfold Bf.Bd.at
    split
    · rfl
    · have : (d.st i.toNat).isNo = true := by
        cases e : (d.st i.toNat).isNo with
        | true => rfl
        | false => exact absurd ⟨by omega, Bf.Bd.dom_of e⟩ hd
      cases hs : d.st i.toNat <;> rw [hs] at this <;> first | rfl | cases this
end Go.Proofs.YtmhipgompplkdaaGreatDoor
namespace Go.Proofs.YtmhipgompplkdaaGreatDoor
open Go.RowKit Go.Shelf Go.Lib Go.Maps
open Tf (Fs)
abbrev fileV (l : List UInt8) : Value := .agg #[.string (ba l)]
theorem look_file {w : World} {bm : Nat} {fs : Fs} (h : w.ownsMap Tryz.prog 9 fileElem bm fs.length (Tf.datum fs)) (p : List UInt8) (hp : p.length ≤ 1000000) :
    (Instr.lookup 146 (.map (some bm)) (.string (ba p)) true).run Tryz.prog w = .ok (.tuple #[fileV ((Tf.get fs p).getD []), .bool (Tf.hasP fs p)]) w := by
  obtain ⟨v, ps, hrun, hv⟩ := h.look_ok (t := 146) (e := 150) klaw Tryz.underlying146 (z := fileV []) (Tryz.zeroValue150 w) (zd := .lit (.string [])) (zp := []) rfl (kkey p hp)
  obtain ⟨l, rfl, hl⟩ := fileElem_inv hv
  rw [Tf.datum_has] at hrun
  rw [Tf.datum_at] at hl
  have : (Tf.get fs p).getD [] = l := by
    cases hg : Tf.get fs p with
    | none => rw [hg] at hl; simp at hl; simp [hl.1]
    | some b => rw [hg] at hl; simp at hl; simp [hl.1]
  rw [this]
  exact hrun
theorem look_nofile (w : World) (p : List UInt8) (hp : p.length ≤ 1000000) :
    (Instr.lookup 146 (.map none) (.string (ba p)) true).run Tryz.prog w = .ok (.tuple #[fileV [], .bool false]) w := by
  have := Maps.look_nil (w := w) (t := 146) (e := 150) true klaw Tryz.underlying146 (z := fileV []) (Tryz.zeroValue150 w) (kkey p hp)
  simpa using this
theorem look_tree {B : Nat} {w : World} {tb : Nat} {fs : Fs} {o : Option Nat} (h : TreeAt B w tb fs o) (p : List UInt8) (hp : p.length ≤ 1000000) :
    (Instr.lookup 146 (.map o) (.string (ba p)) true).run Tryz.prog w = .ok (.tuple #[fileV ((Tf.get fs p).getD []), .bool (Tf.hasP fs p)]) w := by
  have hm := h.isMap
  cases o with
  | none =>
    obtain rfl : fs = [] := hm
    exact look_nofile w p hp
  | some bm => exact look_file hm.2.2 p hp
theorem Get_calls {B : Nat} {w : World} {tb : Nat} {fs : Fs} {o : Option Nat} (h : TreeAt B w tb fs o) (p : List UInt8) (hp : p.length ≤ 1000000) :
    Calls Tryz.prog 27 #[Ptr tb, .string (ba p)] w fun e w' => e = .returned (.tuple #[.string (ba ((Tf.get fs p).getD [])), .bool (Tf.hasP fs p)]) ∧ Below w.heap.size w w' := by
  have hl := look_tree h p hp
  have HA : Hid (Calls Tryz.prog 92 #[Ptr tb] w fun e w' => e = .returned (.map o) ∧ w' = w) := all_calls tb o w h.cell
  generalize (Tf.get fs p).getD [] = b at *
  generalize Tf.hasP fs p = t at *
  clear h hp
  go_enter Tryz.func27, Tryz.ntmps27
  go_wp2_with fail
  refine HA.out.mono ?_
  rintro e w' ⟨rfl, rfl⟩
  go_wp2
  go_ret2
  exact ⟨rfl, (Below.refl _ _).alloc (Nat.le_refl _) _⟩
end Go.Proofs.YtmhipgompplkdaaGreatDoor
