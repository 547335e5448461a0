import Derived.Test.YtmhipgompplkdaaGreatDoorWL02
import Derived.Lib.ItoaNum
import Derived.Lib.Bytealg
import Derived.Lib.Strings
import Derived.Lib.IndexMore
import Derived.Lib.Atoi
import Derived.Lib.ItoaMem
import Derived.Maps.OwnSet
import Derived.Sort.KeysCollected
import Derived.WideAt
import Derived.WideShapes
import Derived.Test.YtmhipgompplkdaaGreatDoorWL07
namespace Go.Proofs.YtmhipgompplkdaaGreatDoor
open Go.Lib
theorem digits_step (n : Nat) : Lib.decDigits n = if n < 10 then [UInt8.ofNat (48 + n)] else Lib.decDigits (n / 10) ++ [UInt8.ofNat (48 + n % 10)] := by
  by_cases h : n < 10
  · rw [if_pos h, Lib.decDigits_one h]
  · rw [if_neg h, Lib.decDigits, dif_neg h]
theorem digits_range (n : Nat) : ∀ b ∈ Lib.decDigits n, 48 ≤ b.toNat ∧ b.toNat ≤ 57 := by
  induction n using Nat.strongRecOn with
  | _ n ih =>
    intro b hb
    rw [digits_step] at hb
    split at hb
    · rw [List.mem_singleton.1 hb]
      simp [UInt8.toNat_ofNat]
      omega
    · rename_i h
      rcases List.mem_append.1 hb with h1 | h1
      · exact ih (n / 10) (by omega) b h1
      · rw [List.mem_singleton.1 h1]
        simp [UInt8.toNat_ofNat]
        omega
theorem digit_inj {a b : Nat} (ha : a < 10) (hb : b < 10) (h : UInt8.ofNat (48 + a) = UInt8.ofNat (48 + b)) : a = b := by
  have := congrArg UInt8.toNat h
  simp [UInt8.toNat_ofNat] at this
  omega
theorem kdigits_ne (n : Nat) : Lib.decDigits n ≠ [] := by
  rw [digits_step]
  split <;> simp
theorem digits_inj : ∀ (a b : Nat), Lib.decDigits a = Lib.decDigits b → a = b := by
  intro a
  induction a using Nat.strongRecOn with
  | _ a ih =>
    intro b h
    rw [digits_step a, digits_step b] at h
    by_cases ha : a < 10
    · by_cases hb : b < 10
      · rw [if_pos ha, if_pos hb] at h
        exact digit_inj ha hb (by simpa using h)
      · rw [if_pos ha, if_neg hb] at h
        have hl := congrArg List.length h
        have := List.length_pos_iff.2 (kdigits_ne (b / 10))
        simp at hl
        exact absurd hl (kdigits_ne _)
    · by_cases hb : b < 10
      · rw [if_neg ha, if_pos hb] at h
        have hl := congrArg List.length h
        simp at hl
        exact absurd hl (kdigits_ne _)
      · rw [if_neg ha, if_neg hb] at h
        have hl : (Lib.decDigits (a / 10)).length = (Lib.decDigits (b / 10)).length := by
          have := congrArg List.length h
          simpa using this
        obtain ⟨h1, h2⟩ := List.append_inj h hl
        have e1 := ih (a / 10) (by omega) (b / 10) h1
        have e2 := digit_inj (a := a % 10) (b := b % 10) (by omega) (by omega) (by simpa using h2)
        omega
def Kp.piece (s : List UInt8) : List UInt8 := Lib.decDigits s.length ++ 58 :: s
def Kp.key (kind word : List UInt8) (ins : List (List UInt8)) : List UInt8 := Kp.piece kind ++ Kp.piece word ++ ins.flatMap Kp.piece
theorem colon_split : ∀ (a b r s : List UInt8), (58 : UInt8) ∉ a → (58 : UInt8) ∉ b → a ++ 58 :: r = b ++ 58 :: s → a = b ∧ r = s
  | [], [], r, s, _, _, h => ⟨rfl, by simpa using h⟩
  | [], y :: b, r, s, _, hb, h => by
    simp at h
    exact absurd (h.1 ▸ List.mem_cons_self) hb
  | x :: a, [], r, s, ha, _, h => by
    simp at h
    exact absurd (h.1 ▸ List.mem_cons_self) ha
  | x :: a, y :: b, r, s, ha, hb, h => by
    simp only [List.cons_append, List.cons.injEq] at h
    obtain ⟨e1, e2⟩ := colon_split a b r s (fun hm => ha (List.mem_cons_of_mem _ hm)) (fun hm => hb (List.mem_cons_of_mem _ hm)) h.2
    exact ⟨by rw [h.1, e1], e2⟩
theorem no58 (n : Nat) : (58 : UInt8) ∉ Lib.decDigits n := fun h => by
  have := digits_range n 58 h
  simp at this
theorem Kp.piece_inj {s s' r r' : List UInt8} (h : Kp.piece s ++ r = Kp.piece s' ++ r') : s = s' ∧ r = r' := by
  unfold Kp.piece at h
  rw [List.append_assoc, List.append_assoc, List.cons_append, List.cons_append] at h
  obtain ⟨h1, h2⟩ := colon_split _ _ _ _ (no58 _) (no58 _) h
  exact List.append_inj h2 (digits_inj _ _ h1)
theorem Kp.piece_ne (s : List UInt8) : Kp.piece s ≠ [] := by
  unfold Kp.piece
  simp
theorem Kp.flat_inj : ∀ (a b : List (List UInt8)), a.flatMap Kp.piece = b.flatMap Kp.piece → a = b
  | [], [], _ => rfl
  | [], y :: b, h => by
    rw [List.flatMap_nil, List.flatMap_cons] at h
    exact absurd (List.append_eq_nil_iff.1 h.symm).1 (Kp.piece_ne y)
  | x :: a, [], h => by
    rw [List.flatMap_nil, List.flatMap_cons] at h
    exact absurd (List.append_eq_nil_iff.1 h).1 (Kp.piece_ne x)
  | x :: a, y :: b, h => by
    rw [List.flatMap_cons, List.flatMap_cons] at h
    obtain ⟨h1, h2⟩ := Kp.piece_inj h
    rw [h1, Kp.flat_inj a b h2]
theorem Kp.key_inj {k w k' w' : List UInt8} {l l' : List (List UInt8)} : Kp.key k w l = Kp.key k' w' l' ↔ k = k' ∧ w = w' ∧ l = l' := by
  constructor
  · intro h
    unfold Kp.key at h
    rw [List.append_assoc, List.append_assoc] at h
    obtain ⟨h1, h2⟩ := Kp.piece_inj h
    obtain ⟨h3, h4⟩ := Kp.piece_inj h2
    exact ⟨h1, h3, Kp.flat_inj _ _ h4⟩
  · rintro ⟨rfl, rfl, rfl⟩
    rfl
end Go.Proofs.YtmhipgompplkdaaGreatDoor
namespace Go.Proofs.YtmhipgompplkdaaGreatDoor.Tf
open Go.Maps
abbrev Fs := List (List UInt8 × List UInt8)
def datum (fs : Fs) : DataW Unit := .map (fs.map fun f => (Lit.string f.1, DataW.lit (.string f.2)))
def Rises (fs : Fs) : Prop := fs.Pairwise (fun a b => bytesBefore a.1 b.1 = true)
def ins (x : List UInt8 × List UInt8) : Fs → Fs
  | [] => [x]
  | y :: r => if bytesBefore x.1 y.1 then x :: y :: r else y :: ins x r
def del (fs : Fs) (p : List UInt8) : Fs := fs.filter fun f => !(f.1 == p)
def put (fs : Fs) (p b : List UInt8) : Fs := ins (p, b) (del fs p)
def hasP (fs : Fs) (p : List UInt8) : Bool := fs.any fun f => f.1 == p
def get (fs : Fs) (p : List UInt8) : Option (List UInt8) := (fs.find? fun f => f.1 == p).map (·.2)
theorem datum_ins (x : List UInt8 × List UInt8) : ∀ fs : Fs, DataW.insert (Lit.string x.1, DataW.lit (H := Unit) (.string x.2)) (fs.map fun f => (Lit.string f.1, DataW.lit (.string f.2))) = (ins x fs).map fun f => (Lit.string f.1, DataW.lit (.string f.2))
  | [] => rfl
  | y :: r => by
    unfold ins
    by_cases h : bytesBefore x.1 y.1 = true
    · have h' : (Lit.string x.1).before (Lit.string y.1) = true := h
      simp only [List.map_cons, DataW.insert]
      rw [if_pos h', if_pos h]
      rfl
    · have h' : ¬ (Lit.string x.1).before (Lit.string y.1) = true := h
      simp only [List.map_cons, DataW.insert]
      rw [if_neg h', if_neg h, datum_ins x r]
      rfl
theorem datum_filter (p : List UInt8) (fs : Fs) : (fs.map fun f => (Lit.string f.1, DataW.lit (H := Unit) (.string f.2))).filter (fun q => !q.1.sameKey (.string p)) = (del fs p).map fun f => (Lit.string f.1, DataW.lit (.string f.2)) := by
  unfold del
  rw [List.filter_map]
  rfl
theorem datum_put (fs : Fs) (p b : List UInt8) : (datum fs).put (.string p) (.lit (.string b)) = datum (put fs p b) := by
  unfold datum put DataW.put
  simp only
  rw [datum_filter, ← datum_ins]
theorem datum_has (fs : Fs) (p : List UInt8) : Maps.has (datum fs) (.string p) = hasP fs p := by
  unfold datum hasP
  rw [has_eq, List.any_map]
  rfl
theorem datum_at (fs : Fs) (p : List UInt8) (z : DataW Unit) : (datum fs).atKey (.string p) z = match get fs p with | some b => .lit (.string b) | none => z := by
  unfold datum get DataW.atKey
  simp only
  rw [List.find?_map]
  rw [show ((fun q : Lit × DataW Unit => q.1.sameKey (.string p)) ∘ fun f : List UInt8 × List UInt8 => (Lit.string f.1, DataW.lit (H := Unit) (.string f.2))) = (fun f => f.1 == p) from rfl]
  cases List.find? (fun f => f.1 == p) fs <;> rfl
theorem datum_size (fs : Fs) : Maps.size (datum fs) = fs.length := by simp [datum, size_eq]
theorem before_lt : ∀ (x y : List UInt8), bytesBefore x y = true ↔ x < y
  | [], [] => by simp [bytesBefore]
  | [], _ :: _ => by simp [bytesBefore]
  | _ :: _, [] => by simp [bytesBefore]
  | a :: r, b :: s => by
    rw [List.cons_lt_cons_iff, ← before_lt r s]
    simp [bytesBefore]
theorem less_before : ∀ (x y : List UInt8), Op.bytesLess x y = bytesBefore x y
  | [], [] => rfl
  | [], _ :: _ => rfl
  | _ :: _, [] => rfl
  | a :: r, b :: s => by simp [Op.bytesLess, bytesBefore, less_before r s]
theorem Rises.sorted {fs : Fs} (h : Rises fs) : (fs.map (·.1)).mergeSort (fun x y => decide (x ≤ y)) = fs.map (·.1) := by
  refine List.mergeSort_of_pairwise ?_
  rw [List.pairwise_map]
  exact h.imp fun {a b} hab => by
    have := (before_lt a.1 b.1).1 hab
    simpa using List.le_of_lt this
theorem Rises.del {fs : Fs} (h : Rises fs) (p : List UInt8) : Rises (del fs p) := List.Pairwise.filter _ h
theorem mem_ins (x y : List UInt8 × List UInt8) : ∀ fs : Fs, y ∈ ins x fs ↔ y = x ∨ y ∈ fs
  | [] => by simp [ins]
  | f :: r => by
    unfold ins
    split
    · simp
    · simp only [List.mem_cons, mem_ins x y r]
      constructor
      · rintro (h | h | h) <;> simp [h]
      · rintro (h | h | h) <;> simp [h]
theorem Rises.ins {fs : Fs} (h : Rises fs) {x : List UInt8 × List UInt8} (hx : ∀ f ∈ fs, f.1 ≠ x.1) : Rises (ins x fs) := by
  induction fs with
  | nil => simp [Tf.ins, Rises]
  | cons f r ih =>
    unfold Tf.ins
    have h' := List.pairwise_cons.1 h
    split
    · rename_i hb
      refine List.pairwise_cons.2 ⟨fun g hg => ?_, h⟩
      rcases List.mem_cons.1 hg with rfl | hg
      · exact hb
      · exact WideShapes.bytes_trans _ _ _ hb (h'.1 g hg)
    · rename_i hb
      refine List.pairwise_cons.2 ⟨fun g hg => ?_, ih h'.2 fun g hg => hx g (List.mem_cons_of_mem _ hg)⟩
      rcases (mem_ins x g r).1 hg with rfl | hg
      · rcases WideAt.bytes_total f.1 g.1 (hx f (by simp)) with h1 | h1
        · exact h1
        · exact absurd h1 hb
      · exact h'.1 g hg
theorem mem_del {fs : Fs} {p : List UInt8} {f : List UInt8 × List UInt8} : f ∈ del fs p ↔ f ∈ fs ∧ f.1 ≠ p := by simp [del]
theorem Rises.put {fs : Fs} (h : Rises fs) (p b : List UInt8) : Rises (put fs p b) := (h.del p).ins fun _ hf => (mem_del.1 hf).2
theorem mem_put {fs : Fs} {p b : List UInt8} {f : List UInt8 × List UInt8} : f ∈ put fs p b ↔ f = (p, b) ∨ (f ∈ fs ∧ f.1 ≠ p) := by
  unfold put
  rw [mem_ins, mem_del]
theorem length_ins (x : List UInt8 × List UInt8) : ∀ fs : Fs, (ins x fs).length = fs.length + 1
  | [] => rfl
  | f :: r => by
    unfold ins
    split
    · rfl
    · simp [length_ins x r]
theorem del_none {fs : Fs} {p : List UInt8} (h : hasP fs p = false) : del fs p = fs := by
  unfold del hasP at *
  rw [List.filter_eq_self]
  intro f hf
  have := List.any_eq_false.1 h f hf
  simpa using this
theorem length_del_le (fs : Fs) (p : List UInt8) : (del fs p).length ≤ fs.length := List.length_filter_le _ _
theorem length_del_lt {fs : Fs} {p : List UInt8} (h : hasP fs p = true) : (del fs p).length < fs.length := by
  unfold del hasP at *
  obtain ⟨f, hf, hp⟩ := List.any_eq_true.1 h
  rcases Nat.lt_or_ge (fs.filter fun f => !(f.1 == p)).length fs.length with h1 | h1
  · exact h1
  · have e := List.filter_eq_self.1 (List.Sublist.eq_of_length_le (List.filter_sublist) h1) f hf
    simp [hp] at e
def above (a b : List UInt8) : Bool := Lib.hasPrefix b (a ++ [47])
def clash (fs : Fs) (p : List UInt8) : Bool := fs.any fun f => above f.1 p || above p f.1
def putCode (ok : List UInt8 → Bool) (fs : Fs) (p b : List UInt8) : Nat :=
  if ok p = false then 4 else if 2000 < b.length then 2 else if hasP fs p then 0 else if clash fs p then 7 else if 60 ≤ fs.length then 8 else 0
def putF (ok : List UInt8 → Bool) (fs : Fs) (p b : List UInt8) : Fs := if putCode ok fs p b = 0 then put fs p b else fs
structure Well (ok : List UInt8 → Bool) (fs : Fs) : Prop where
  rises : Rises fs
  few : fs.length ≤ 60
  each : ∀ f ∈ fs, ok f.1 = true ∧ f.2.length ≤ 2000
  apart : ∀ f ∈ fs, ∀ g ∈ fs, above f.1 g.1 = false
theorem above_self (p : List UInt8) : above p p = false := by
  unfold above Lib.hasPrefix
  cases h : (p ++ [47]).isPrefixOf p with
  | false => rfl
  | true =>
    have := (List.isPrefixOf_iff_prefix.1 h).length_le
    simp at this
    omega
theorem Well.nil (ok : List UInt8 → Bool) : Well ok [] := ⟨List.Pairwise.nil, by simp, by simp, by simp⟩
theorem Well.del {ok : List UInt8 → Bool} {fs : Fs} (h : Well ok fs) (p : List UInt8) : Well ok (del fs p) :=
  ⟨h.rises.del p, Nat.le_trans (length_del_le _ _) h.few, fun f hf => h.each f (mem_del.1 hf).1, fun f hf g hg => h.apart f (mem_del.1 hf).1 g (mem_del.1 hg).1⟩
theorem Well.put {ok : List UInt8 → Bool} {fs : Fs} (h : Well ok fs) {p b : List UInt8} (hc : putCode ok fs p b = 0) : Well ok (put fs p b) := by
  unfold putCode at hc
  split at hc
  · cases hc
  rename_i hok
  split at hc
  · cases hc
  rename_i hb
  have hok' : ok p = true := by simpa using hok
  refine ⟨h.rises.put p b, ?_, ?_, ?_⟩
  · unfold Tf.put
    rw [length_ins]
    have := h.few
    split at hc
    · rename_i hh
      have := length_del_lt hh
      omega
    · rename_i hh
      have hh' : hasP fs p = false := by simpa using hh
      rw [del_none hh']
      split at hc
      · cases hc
      split at hc
      · cases hc
      · omega
  · intro f hf
    rcases mem_put.1 hf with rfl | ⟨hf, _⟩
    · exact ⟨hok', by simpa using hb⟩
    · exact h.each f hf
  · have key : ∀ f ∈ fs, f.1 ≠ p → above f.1 p = false ∧ above p f.1 = false := by
      intro f hf hne
      split at hc
      · rename_i hh
        obtain ⟨g, hg, hgp⟩ := List.any_eq_true.1 hh
        obtain rfl : g.1 = p := by simpa using hgp
        exact ⟨h.apart f hf g hg, h.apart g hg f hf⟩
      · split at hc
        · cases hc
        · rename_i hcl
          have hcl' : clash fs p = false := by simpa using hcl
          have := List.any_eq_false.1 hcl' f hf
          simpa using this
    intro f hf g hg
    rcases mem_put.1 hf with rfl | ⟨hf, hfp⟩ <;> rcases mem_put.1 hg with rfl | ⟨hg, hgp⟩
    · exact above_self p
    · exact (key g hg hgp).2
    · exact (key f hf hfp).1
    · exact h.apart f hf g hg
theorem Well.putF {ok : List UInt8 → Bool} {fs : Fs} (h : Well ok fs) (p b : List UInt8) : Well ok (putF ok fs p b) := by
  unfold Tf.putF
  split
  · rename_i hc; exact h.put hc
  · exact h
theorem Rises.take {fs : Fs} (h : Rises fs) (k : Nat) : Rises (fs.take k) := h.sublist (List.take_sublist _ _)
theorem Rises.before_at {fs : Fs} (h : Rises fs) {k : Nat} (hk : k < fs.length) : ∀ f ∈ fs.take k, bytesBefore f.1 fs[k].1 = true := by
  intro f hf
  obtain ⟨j, hj, rfl⟩ := List.mem_iff_getElem.1 hf
  rw [List.length_take] at hj
  rw [List.getElem_take]
  exact List.pairwise_iff_getElem.1 h j k (by omega) hk (by omega)
end Go.Proofs.YtmhipgompplkdaaGreatDoor.Tf
namespace Go.Proofs.YtmhipgompplkdaaGreatDoor
namespace Bf
inductive St where
  | no | waits | done (s : List UInt8) (hit : Bool) | failed (why : Nat) | left
def St.isWaits : St → Bool | .waits => true | _ => false
def St.isDone : St → Bool | .done _ _ => true | _ => false
def St.isBad : St → Bool | .failed _ => true | .left => true | _ => false
def St.isNo : St → Bool | .no => true | _ => false
def St.isFailed : St → Bool | .failed _ => true | _ => false
def St.isLeft : St → Bool | .left => true | _ => false
def St.name : St → List UInt8
  | .no => []
  | .waits => [119, 97, 105, 116, 115]
  | .done _ _ => [100, 111, 110, 101]
  | .failed _ => [102, 97, 105, 108, 101, 100]
  | .left => [108, 101, 102, 116]
def St.out : St → List UInt8 | .done s _ => s | _ => []
def St.hit : St → Bool | .done _ h => h | _ => false
def St.why : St → Nat | .failed c => c | _ => 0
theorem St.bad_eq (s : St) : s.isBad = (s.isFailed || s.isLeft) := by cases s <;> rfl
theorem St.waits_eq {s : St} (h : s.isWaits = true) : s = .waits := by cases s <;> first | rfl | cases h
structure Bd where
  fs : Tf.Fs
  l : List Ru
  st : Nat → St
def setS (st : Nat → St) (i : Nat) (s : St) : Nat → St := fun j => if j = i then s else st j
theorem setS_same (st : Nat → St) (i : Nat) (s : St) : setS st i s i = s := if_pos rfl
theorem setS_other {st : Nat → St} {i j : Nat} {s : St} (h : j ≠ i) : setS st i s j = st j := if_neg h
def Bd.set (d : Bd) (i : Nat) (s : St) : Bd := { d with st := setS d.st i s }
def freeTo (l : List Ru) (st : Nat → St) (i m : Nat) : Bool := (List.range m).all fun k => !(Ru.needs l i k && !(st k).isDone)
def Bd.isReady (d : Bd) (i : Nat) : Bool := (d.st i).isWaits && freeTo d.l d.st i d.l.length
def Bd.readyTo (d : Bd) (m : Nat) : List Nat := (List.range m).filter d.isReady
def Bd.ready (d : Bd) : List Nat := d.readyTo d.l.length
theorem mem_ready {d : Bd} {i : Nat} : i ∈ d.ready ↔ i < d.l.length ∧ d.isReady i = true := by
  unfold Bd.ready Bd.readyTo
  rw [List.mem_filter, List.mem_range]
theorem ready_free {d : Bd} {i k : Nat} (h : d.isReady i = true) (hk : k < d.l.length) (hn : Ru.needs d.l i k = true) : (d.st k).isDone = true := by
  unfold Bd.isReady freeTo at h
  rw [Bool.and_eq_true, List.all_eq_true] at h
  have := h.2 k (List.mem_range.2 hk)
  rw [hn] at this
  simpa using this
theorem ready_waits {d : Bd} {i : Nat} (h : d.isReady i = true) : d.st i = .waits := by
  unfold Bd.isReady at h
  rw [Bool.and_eq_true] at h
  exact St.waits_eq h.1
theorem ready_of {d : Bd} {i : Nat} (h : d.st i = .waits) (hf : ∀ k, k < d.l.length → Ru.needs d.l i k = true → (d.st k).isDone = true) : d.isReady i = true := by
  unfold Bd.isReady freeTo
  rw [h, Bool.and_eq_true, List.all_eq_true]
  refine ⟨rfl, fun k hk => ?_⟩
  by_cases hn : Ru.needs d.l i k = true
  · rw [hn, hf k (List.mem_range.1 hk) hn]; rfl
  · rw [Bool.not_eq_true] at hn
    rw [hn]; rfl
inductive Chain (l : List Ru) (st : Nat → St) : Nat → Prop
  | one {k j : Nat} : Ru.needs l k j = true → (st j).isBad = true → Chain l st k
  | more {k j : Nat} : Ru.needs l k j = true → (st j).isWaits = true → Chain l st j → Chain l st k
open Classical in
noncomputable def spread (l : List Ru) (st : Nat → St) : Nat → St := fun k => if (st k).isWaits = true ∧ Chain l st k then .left else st k
noncomputable def Bd.fail (d : Bd) (i c : Nat) : Bd := { d with st := spread d.l (setS d.st i (.failed c)) }
def mkr (l : List Ru) (x : List UInt8) : Option Nat := l.findIdx? fun r => r.out == x
def Bd.bytes (d : Bd) (x : List UInt8) : Option (List UInt8) :=
  match mkr d.l x with
  | some j => some (d.st j).out
  | none => Tf.get d.fs x
def inB (f : List UInt8 → Option (List UInt8)) : List (List UInt8) → Option (List (List UInt8))
  | [] => some []
  | x :: r => match f x with
    | none => none
    | some b => (inB f r).map (b :: ·)
theorem inB_len {f : List UInt8 → Option (List UInt8)} : ∀ {a o : List (List UInt8)}, inB f a = some o → o.length = a.length
  | [], o, h => by cases h; rfl
  | y :: r, o, h => by
    unfold inB at h
    cases hy : f y with
    | none => rw [hy] at h; cases h
    | some b =>
      rw [hy] at h
      cases hr : inB f r with
      | none => rw [hr] at h; cases h
      | some q =>
        rw [hr] at h
        obtain rfl : b :: q = o := by simpa using h
        simp [inB_len hr]
theorem inB_mem {f : List UInt8 → Option (List UInt8)} : ∀ {a o : List (List UInt8)}, inB f a = some o → ∀ b ∈ o, ∃ x ∈ a, f x = some b
  | [], o, h, b, hb => by cases h; cases hb
  | y :: r, o, h, b, hb => by
    unfold inB at h
    cases hy : f y with
    | none => rw [hy] at h; cases h
    | some c =>
      rw [hy] at h
      cases hr : inB f r with
      | none => rw [hr] at h; cases h
      | some q =>
        rw [hr] at h
        obtain rfl : c :: q = o := by simpa using h
        rcases List.mem_cons.1 hb with rfl | hb
        · exact ⟨y, by simp, hy⟩
        · obtain ⟨x, hx, e⟩ := inB_mem hr b hb
          exact ⟨x, List.mem_cons_of_mem _ hx, e⟩
abbrev Ca : Type := Option (Nat × Cf.Ens)
def cfind : Ca → List UInt8 → Option (List UInt8)
  | some (_, l), k => Cf.find l k
  | none, _ => none
def cget : Ca → List UInt8 → Ca
  | some (m, l), k => some (m, Cf.get m l k)
  | none, _ => none
def cput : Ca → List UInt8 → List UInt8 → Ca
  | some (m, l), k, b => some (m, Cf.put m l k b)
  | none, _, _ => none
structure Res where
  hit : Bool
  code : Nat
  d : Bd
  c : Ca
abbrev Act : Type := List UInt8 → List UInt8 → List (List UInt8) → List UInt8 × Nat
def Bd.rule (d : Bd) (i : Nat) : Ru := d.l.getD i ⟨[], [], [], []⟩
def Bd.ins (d : Bd) (i : Nat) : Option (List (List UInt8)) := inB d.bytes (d.rule i).ins
noncomputable def go (act : Act) (c : Ca) (d : Bd) (i : Nat) : Res :=
  match d.ins i with
  | none => ⟨false, 0, d.fail i 6, c⟩
  | some xs =>
    match cfind c (Kp.key (d.rule i).kind (d.rule i).word xs) with
    | some s => ⟨true, 0, d.set i (.done s true), cget c (Kp.key (d.rule i).kind (d.rule i).word xs)⟩
    | none =>
      if (act (d.rule i).kind (d.rule i).word xs).2 = 0 then ⟨false, 0, d.set i (.done (act (d.rule i).kind (d.rule i).word xs).1 false), cput c (Kp.key (d.rule i).kind (d.rule i).word xs) (act (d.rule i).kind (d.rule i).word xs).1⟩
      else ⟨false, 0, d.fail i (act (d.rule i).kind (d.rule i).word xs).2, c⟩
noncomputable def runN (act : Act) (c : Ca) (d : Bd) (i : Nat) : Res :=
  if (d.st i).isNo = true then ⟨false, 6, d, c⟩
  else if (d.st i).isWaits = false then ⟨false, 12, d, c⟩
  else if d.isReady i = false then ⟨false, 11, d, c⟩
  else go act c d i
noncomputable def run (act : Act) (c : Ca) (d : Bd) (i : Int) : Res :=
  if i < 0 ∨ (d.l.length : Int) ≤ i then ⟨false, 6, d, c⟩ else runN act c d i.toNat
def many (st : Nat → St) (p : St → Bool) : Nat → Nat
  | 0 => 0
  | n + 1 => many st p n + (if p (st n) = true then 1 else 0)
theorem many_le (st : Nat → St) (p : St → Bool) : ∀ n, many st p n ≤ n
  | 0 => Nat.le_refl _
  | n + 1 => by
    have := many_le st p n
    unfold many
    split <;> omega
theorem many_less {st st' : Nat → St} {p : St → Bool} {i : Nat} : ∀ {n : Nat}, i < n → p (st i) = true → p (st' i) = false → (∀ k, p (st' k) = true → p (st k) = true) → many st' p n < many st p n
  | 0, h, _, _, _ => by omega
  | n + 1, h, h1, h2, h3 => by
    have hle : ∀ m, many st' p m ≤ many st p m := by
      intro m
      induction m with
      | zero => exact Nat.le_refl _
      | succ m ih =>
        unfold many
        by_cases hp : p (st' m) = true
        · rw [if_pos hp, if_pos (h3 m hp)]; omega
        · rw [if_neg hp]; split <;> omega
    unfold many
    by_cases e : i = n
    · subst e
      have := hle i
      rw [if_pos h1, if_neg (by rw [h2]; simp)]
      omega
    · have ih := many_less (n := n) (by omega) h1 h2 h3
      by_cases hp : p (st' n) = true
      · rw [if_pos hp, if_pos (h3 n hp)]; omega
      · rw [if_neg hp]; split <;> omega
def Bd.waits (d : Bd) : Nat := many d.st St.isWaits d.l.length
theorem spread_waits {l : List Ru} {st : Nat → St} {k : Nat} (h : (spread l st k).isWaits = true) : (st k).isWaits = true ∧ ¬ Chain l st k := by
  unfold spread at h
  split at h
  · cases h
  · rename_i hn
    exact ⟨h, fun hc => hn ⟨h, hc⟩⟩
theorem spread_keeps {l : List Ru} {st : Nat → St} {k : Nat} (h : (st k).isWaits = false) : spread l st k = st k := by
  unfold spread
  rw [if_neg (by rw [h]; simp)]
theorem go_less (act : Act) (c : Ca) (d : Bd) (i : Nat) (hi : i < d.l.length) (hr : d.isReady i = true) : (go act c d i).d.waits < d.waits ∧ (go act c d i).d.l = d.l ∧ (go act c d i).d.fs = d.fs := by
  have hw := ready_waits hr
  have hset : ∀ s : St, s.isWaits = false → (d.set i s).waits < d.waits := fun s hs => by
    refine many_less (i := i) hi (by rw [hw]; rfl) ?_ fun k hk => ?_
    · show (setS d.st i s i).isWaits = false
      rw [setS_same]; exact hs
    · have hk' : (setS d.st i s k).isWaits = true := hk
      by_cases e : k = i
      · rw [e, hw]; rfl
      · rwa [setS_other e] at hk'
  have hfail : ∀ e, (d.fail i e).waits < d.waits := fun e => by
    refine many_less (i := i) hi (by rw [hw]; rfl) ?_ fun k hk => ?_
    · show (spread d.l (setS d.st i (.failed e)) i).isWaits = false
      rw [spread_keeps (by rw [setS_same]; rfl), setS_same]; rfl
    · have hk' := (spread_waits (show (spread d.l (setS d.st i (.failed e)) k).isWaits = true from hk)).1
      by_cases e : k = i
      · rw [e, hw]; rfl
      · rwa [setS_other e] at hk'
  unfold go
  split
  · exact ⟨hfail _, rfl, rfl⟩
  · split
    · exact ⟨hset _ rfl, rfl, rfl⟩
    · split
      · exact ⟨hset _ rfl, rfl, rfl⟩
      · exact ⟨hfail _, rfl, rfl⟩
noncomputable def allF (act : Act) : Nat → Ca → Bd → Bd × Ca
  | 0, c, d => (d, c)
  | f + 1, c, d =>
    match d.ready with
    | [] => (d, c)
    | i :: _ => allF act f (go act c d i).c (go act c d i).d
noncomputable def all (act : Act) (c : Ca) (d : Bd) : Bd × Ca := allF act (d.waits + 1) c d
theorem allF_enough (act : Act) : ∀ (f f' : Nat) (c : Ca) (d : Bd), d.waits < f → d.waits < f' → allF act f c d = allF act f' c d
  | 0, _, _, _, h, _ => by omega
  | _, 0, _, _, _, h => by omega
  | f + 1, f' + 1, c, d, h, h' => by
    unfold allF
    cases hr : d.ready with
    | nil => rfl
    | cons i r =>
      have hm := mem_ready.1 (show i ∈ d.ready by rw [hr]; simp)
      have := (go_less act c d i hm.1 hm.2).1
      exact allF_enough act f f' _ _ (by omega) (by omega)
theorem all_nil (act : Act) (c : Ca) (d : Bd) (h : d.ready = []) : all act c d = (d, c) := by
  unfold all allF
  rw [h]
theorem all_cons (act : Act) (c : Ca) (d : Bd) {i : Nat} {r : List Nat} (h : d.ready = i :: r) : all act c d = all act (go act c d i).c (go act c d i).d := by
  have hm := mem_ready.1 (show i ∈ d.ready by rw [h]; simp)
  have := (go_less act c d i hm.1 hm.2).1
  conv => lhs; unfold all allF
  rw [h]
  exact allF_enough act _ _ _ _ (by omega) (by omega)
end Bf
end Go.Proofs.YtmhipgompplkdaaGreatDoor
