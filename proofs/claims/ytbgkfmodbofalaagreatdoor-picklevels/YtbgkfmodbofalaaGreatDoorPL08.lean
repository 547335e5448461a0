import Derived.Lib.Bytealg
import Derived.Lib.Strings
import Derived.Lib.IndexMore
import Derived.Lib.Atoi
import Derived.Lib.ItoaNum
import Derived.Lib.ItoaMem
import Derived.Maps.OwnSet
import Derived.Sort.KeysCollected
import Derived.WideAt
import Derived.WideShapes
import Derived.Test.YtbgkfmodbofalaaGreatDoorPL07
namespace Go.Proofs.YtbgkfmodbofalaaGreatDoor.Tf
open Go.Maps
abbrev Fs := List (List UInt8 × List UInt8)
def datum (fs : Fs) : DataW Unit := .map (fs.map fun f => (Lit.string f.1, DataW.lit (.string f.2)))
def Rises (fs : Fs) : Prop := fs.Pairwise (fun a b => bytesBefore a.1 b.1 = true)
def ins (x : List UInt8 × List UInt8) : Fs → Fs
  | [] => [x]
  | y :: r => if bytesBefore x.1 y.1 then x :: y :: r else y :: ins x r
def del (fs : Fs) (p : List UInt8) : Fs := fs.filter fun f => !(f.1 == p)
def put (fs : Fs) (p b : List UInt8) : Fs := ins (p, b) (del fs p)
def hasP (fs : Fs) (p : List UInt8) : Bool := fs.any fun f => f.1 == p
def get (fs : Fs) (p : List UInt8) : Option (List UInt8) := (fs.find? fun f => f.1 == p).map (·.2)
theorem datum_has (fs : Fs) (p : List UInt8) : Maps.has (datum fs) (.string p) = hasP fs p := by
  unfold datum hasP
  rw [has_eq, List.any_map]
  rfl
theorem datum_at (fs : Fs) (p : List UInt8) (z : DataW Unit) : (datum fs).atKey (.string p) z = match get fs p with | some b => .lit (.string b) | none => z := by
  unfold datum get DataW.atKey
  simp only
  rw [List.find?_map]
  rw [show ((fun q : Lit × DataW Unit => q.1.sameKey (.string p)) ∘ fun f : List UInt8 × List UInt8 => (Lit.string f.1, DataW.lit (H := Unit) (.string f.2))) = (fun f => f.1 == p) from rfl]
  cases List.find? (fun f => f.1 == p) fs <;> rfl
theorem before_lt : ∀ (x y : List UInt8), bytesBefore x y = true ↔ x < y
  | [], [] => by simp [bytesBefore]
  | [], _ :: _ => by simp [bytesBefore]
  | _ :: _, [] => by simp [bytesBefore]
  | a :: r, b :: s => by
    rw [List.cons_lt_cons_iff, ← before_lt r s]
    simp [bytesBefore]
theorem less_before : ∀ (x y : List UInt8), Op.bytesLess x y = bytesBefore x y
  | [], [] => rfl
  | [], _ :: _ => rfl
  | _ :: _, [] => rfl
  | a :: r, b :: s => by simp [Op.bytesLess, bytesBefore, less_before r s]
theorem Rises.sorted {fs : Fs} (h : Rises fs) : (fs.map (·.1)).mergeSort (fun x y => decide (x ≤ y)) = fs.map (·.1) := by
  refine List.mergeSort_of_pairwise ?_
  rw [List.pairwise_map]
  exact h.imp fun {a b} hab => by
    have := (before_lt a.1 b.1).1 hab
    simpa using List.le_of_lt this
theorem Rises.del {fs : Fs} (h : Rises fs) (p : List UInt8) : Rises (del fs p) := List.Pairwise.filter _ h
theorem mem_ins (x y : List UInt8 × List UInt8) : ∀ fs : Fs, y ∈ ins x fs ↔ y = x ∨ y ∈ fs
  | [] => by simp [ins]
  | f :: r => by
    unfold ins
    split
    · simp
    · simp only [List.mem_cons, mem_ins x y r]
      constructor
      · rintro (h | h | h) <;> simp [h]
      · rintro (h | h | h) <;> simp [h]
theorem Rises.ins {fs : Fs} (h : Rises fs) {x : List UInt8 × List UInt8} (hx : ∀ f ∈ fs, f.1 ≠ x.1) : Rises (ins x fs) := by
  induction fs with
  | nil => simp [Tf.ins, Rises]
  | cons f r ih =>
    unfold Tf.ins
    have h' := List.pairwise_cons.1 h
    split
    · rename_i hb
      refine List.pairwise_cons.2 ⟨fun g hg => ?_, h⟩
      rcases List.mem_cons.1 hg with rfl | hg
      · exact hb
      · exact WideShapes.bytes_trans _ _ _ hb (h'.1 g hg)
    · rename_i hb
      refine List.pairwise_cons.2 ⟨fun g hg => ?_, ih h'.2 fun g hg => hx g (List.mem_cons_of_mem _ hg)⟩
      rcases (mem_ins x g r).1 hg with rfl | hg
      · rcases WideAt.bytes_total f.1 g.1 (hx f (by simp)) with h1 | h1
        · exact h1
        · exact absurd h1 hb
      · exact h'.1 g hg
theorem mem_del {fs : Fs} {p : List UInt8} {f : List UInt8 × List UInt8} : f ∈ del fs p ↔ f ∈ fs ∧ f.1 ≠ p := by simp [del]
theorem Rises.put {fs : Fs} (h : Rises fs) (p b : List UInt8) : Rises (put fs p b) := (h.del p).ins fun _ hf => (mem_del.1 hf).2
theorem mem_put {fs : Fs} {p b : List UInt8} {f : List UInt8 × List UInt8} : f ∈ put fs p b ↔ f = (p, b) ∨ (f ∈ fs ∧ f.1 ≠ p) := by
  unfold put
  rw [mem_ins, mem_del]
theorem length_ins (x : List UInt8 × List UInt8) : ∀ fs : Fs, (ins x fs).length = fs.length + 1
  | [] => rfl
  | f :: r => by
    unfold ins
    split
    · rfl
    · simp [length_ins x r]
theorem del_none {fs : Fs} {p : List UInt8} (h : hasP fs p = false) : del fs p = fs := by
  unfold del hasP at *
  rw [List.filter_eq_self]
  intro f hf
  have := List.any_eq_false.1 h f hf
  simpa using this
theorem length_del_le (fs : Fs) (p : List UInt8) : (del fs p).length ≤ fs.length := List.length_filter_le _ _
theorem length_del_lt {fs : Fs} {p : List UInt8} (h : hasP fs p = true) : (del fs p).length < fs.length := by
  unfold del hasP at *
  obtain ⟨f, hf, hp⟩ := List.any_eq_true.1 h
  rcases Nat.lt_or_ge (fs.filter fun f => !(f.1 == p)).length fs.length with h1 | h1
  · exact h1
  · have e := List.filter_eq_self.1 (List.Sublist.eq_of_length_le (List.filter_sublist) h1) f hf
    simp [hp] at e
def above (a b : List UInt8) : Bool := Lib.hasPrefix b (a ++ [47])
def clash (fs : Fs) (p : List UInt8) : Bool := fs.any fun f => above f.1 p || above p f.1
def putCode (ok : List UInt8 → Bool) (fs : Fs) (p b : List UInt8) : Nat :=
  if ok p = false then 4 else if 2000 < b.length then 2 else if hasP fs p then 0 else if clash fs p then 7 else if 60 ≤ fs.length then 8 else 0
def putF (ok : List UInt8 → Bool) (fs : Fs) (p b : List UInt8) : Fs := if putCode ok fs p b = 0 then put fs p b else fs
structure Well (ok : List UInt8 → Bool) (fs : Fs) : Prop where
  rises : Rises fs
  few : fs.length ≤ 60
  each : ∀ f ∈ fs, ok f.1 = true ∧ f.2.length ≤ 2000
  apart : ∀ f ∈ fs, ∀ g ∈ fs, above f.1 g.1 = false
theorem above_self (p : List UInt8) : above p p = false := by
  unfold above Lib.hasPrefix
  cases h : (p ++ [47]).isPrefixOf p with
  | false => rfl
  | true =>
    have := (List.isPrefixOf_iff_prefix.1 h).length_le
    simp at this
    omega
theorem Well.nil (ok : List UInt8 → Bool) : Well ok [] := ⟨List.Pairwise.nil, by simp, by simp, by simp⟩
theorem Well.del {ok : List UInt8 → Bool} {fs : Fs} (h : Well ok fs) (p : List UInt8) : Well ok (del fs p) :=
  ⟨h.rises.del p, Nat.le_trans (length_del_le _ _) h.few, fun f hf => h.each f (mem_del.1 hf).1, fun f hf g hg => h.apart f (mem_del.1 hf).1 g (mem_del.1 hg).1⟩
theorem Well.put {ok : List UInt8 → Bool} {fs : Fs} (h : Well ok fs) {p b : List UInt8} (hc : putCode ok fs p b = 0) : Well ok (put fs p b) := by
  unfold putCode at hc
  split at hc
  · cases hc
  rename_i hok
  split at hc
  · cases hc
  rename_i hb
  have hok' : ok p = true := by simpa using hok
  refine ⟨h.rises.put p b, ?_, ?_, ?_⟩
  · unfold Tf.put
    rw [length_ins]
    have := h.few
    split at hc
    · rename_i hh
      have := length_del_lt hh
      omega
    · rename_i hh
      have hh' : hasP fs p = false := by simpa using hh
      rw [del_none hh']
      split at hc
      · cases hc
      split at hc
      · cases hc
      · omega
  · intro f hf
    rcases mem_put.1 hf with rfl | ⟨hf, _⟩
    · exact ⟨hok', by simpa using hb⟩
    · exact h.each f hf
  · have key : ∀ f ∈ fs, f.1 ≠ p → above f.1 p = false ∧ above p f.1 = false := by
      intro f hf hne
      split at hc
      · rename_i hh
        obtain ⟨g, hg, hgp⟩ := List.any_eq_true.1 hh
        obtain rfl : g.1 = p := by simpa using hgp
        exact ⟨h.apart f hf g hg, h.apart g hg f hf⟩
      · split at hc
        · cases hc
        · rename_i hcl
          have hcl' : clash fs p = false := by simpa using hcl
          have := List.any_eq_false.1 hcl' f hf
          simpa using this
    intro f hf g hg
    rcases mem_put.1 hf with rfl | ⟨hf, hfp⟩ <;> rcases mem_put.1 hg with rfl | ⟨hg, hgp⟩
    · exact above_self p
    · exact (key g hg hgp).2
    · exact (key f hf hfp).1
    · exact h.apart f hf g hg
theorem Well.putF {ok : List UInt8 → Bool} {fs : Fs} (h : Well ok fs) (p b : List UInt8) : Well ok (putF ok fs p b) := by
  unfold Tf.putF
  split
  · rename_i hc; exact h.put hc
  · exact h
theorem Rises.take {fs : Fs} (h : Rises fs) (k : Nat) : Rises (fs.take k) := h.sublist (List.take_sublist _ _)
def entryT (f : List UInt8 × List UInt8) : List UInt8 := f.1 ++ 32 :: (Lib.decDigits f.2.length ++ 10 :: (f.2 ++ [10]))
def textT (fs : Fs) : List UInt8 := fs.flatMap entryT
def numT (d : List UInt8) : Option Nat :=
  if 4 < d.length then none else match Lib.atoi d with
    | some n => if 0 ≤ n ∧ Lib.itoa n = d then some n.toNat else none
    | none => none
def readE (s : List UInt8) : Option ((List UInt8 × List UInt8) × List UInt8) :=
  if (Lib.cut s [10]).2.2 = false then none
  else if (Lib.cut (Lib.cut s [10]).1 [32]).2.2 = false then none
  else match numT (Lib.cut (Lib.cut s [10]).1 [32]).2.1 with
    | none => none
    | some n =>
      if (Lib.cut s [10]).2.1.length < n then none
      else if Lib.hasPrefix ((Lib.cut s [10]).2.1.drop n) [10] = false then none
      else some (((Lib.cut (Lib.cut s [10]).1 [32]).1, (Lib.cut s [10]).2.1.take n), (Lib.cut s [10]).2.1.drop (n + 1))
inductive Parse : List UInt8 → Fs → Prop
  | nil : Parse [] []
  | cons {s r : List UInt8} {e : List UInt8 × List UInt8} {es : Fs} : s ≠ [] → readE s = some (e, r) → Parse r es → Parse s (e :: es)
end Go.Proofs.YtbgkfmodbofalaaGreatDoor.Tf
namespace Go.Proofs.YtbgkfmodbofalaaGreatDoor
namespace Bf
inductive St where
  | no | waits | done (s : List UInt8) (hit : Bool) | failed (why : Nat) | left
def St.isWaits : St → Bool | .waits => true | _ => false
def St.isDone : St → Bool | .done _ _ => true | _ => false
def St.isBad : St → Bool | .failed _ => true | .left => true | _ => false
def St.isNo : St → Bool | .no => true | _ => false
def St.isFailed : St → Bool | .failed _ => true | _ => false
def St.isLeft : St → Bool | .left => true | _ => false
def St.name : St → List UInt8
  | .no => []
  | .waits => [119, 97, 105, 116, 115]
  | .done _ _ => [100, 111, 110, 101]
  | .failed _ => [102, 97, 105, 108, 101, 100]
  | .left => [108, 101, 102, 116]
def St.out : St → List UInt8 | .done s _ => s | _ => []
def St.hit : St → Bool | .done _ h => h | _ => false
def St.why : St → Nat | .failed c => c | _ => 0
theorem St.bad_eq (s : St) : s.isBad = (s.isFailed || s.isLeft) := by cases s <;> rfl
theorem St.waits_eq {s : St} (h : s.isWaits = true) : s = .waits := by cases s <;> first | rfl | cases h
structure Bd where
  fs : Tf.Fs
  l : List Ru
  st : Nat → St
def setS (st : Nat → St) (i : Nat) (s : St) : Nat → St := fun j => if j = i then s else st j
theorem setS_same (st : Nat → St) (i : Nat) (s : St) : setS st i s i = s := if_pos rfl
theorem setS_other {st : Nat → St} {i j : Nat} {s : St} (h : j ≠ i) : setS st i s j = st j := if_neg h
def Bd.set (d : Bd) (i : Nat) (s : St) : Bd := { d with st := setS d.st i s }
def freeTo (l : List Ru) (st : Nat → St) (i m : Nat) : Bool := (List.range m).all fun k => !(Ru.needs l i k && !(st k).isDone)
theorem freeTo_succ (l : List Ru) (st : Nat → St) (i m : Nat) : freeTo l st i (m + 1) = (freeTo l st i m && !(Ru.needs l i m && !(st m).isDone)) := by
  unfold freeTo
  rw [List.range_succ, List.all_append]
  simp
def Bd.isReady (d : Bd) (i : Nat) : Bool := (d.st i).isWaits && freeTo d.l d.st i d.l.length
def Bd.readyTo (d : Bd) (m : Nat) : List Nat := (List.range m).filter d.isReady
def Bd.ready (d : Bd) : List Nat := d.readyTo d.l.length
theorem readyTo_len (d : Bd) (m : Nat) : (d.readyTo m).length ≤ m := by
  have := List.length_filter_le d.isReady (List.range m)
  simpa [Bd.readyTo] using this
theorem mem_ready {d : Bd} {i : Nat} : i ∈ d.ready ↔ i < d.l.length ∧ d.isReady i = true := by
  unfold Bd.ready Bd.readyTo
  rw [List.mem_filter, List.mem_range]
theorem ready_free {d : Bd} {i k : Nat} (h : d.isReady i = true) (hk : k < d.l.length) (hn : Ru.needs d.l i k = true) : (d.st k).isDone = true := by
  unfold Bd.isReady freeTo at h
  rw [Bool.and_eq_true, List.all_eq_true] at h
  have := h.2 k (List.mem_range.2 hk)
  rw [hn] at this
  simpa using this
theorem ready_waits {d : Bd} {i : Nat} (h : d.isReady i = true) : d.st i = .waits := by
  unfold Bd.isReady at h
  rw [Bool.and_eq_true] at h
  exact St.waits_eq h.1
theorem ready_of {d : Bd} {i : Nat} (h : d.st i = .waits) (hf : ∀ k, k < d.l.length → Ru.needs d.l i k = true → (d.st k).isDone = true) : d.isReady i = true := by
  unfold Bd.isReady freeTo
  rw [h, Bool.and_eq_true, List.all_eq_true]
  refine ⟨rfl, fun k hk => ?_⟩
  by_cases hn : Ru.needs d.l i k = true
  · rw [hn, hf k (List.mem_range.1 hk) hn]; rfl
  · rw [Bool.not_eq_true] at hn
    rw [hn]; rfl
inductive Chain (l : List Ru) (st : Nat → St) : Nat → Prop
  | one {k j : Nat} : Ru.needs l k j = true → (st j).isBad = true → Chain l st k
  | more {k j : Nat} : Ru.needs l k j = true → (st j).isWaits = true → Chain l st j → Chain l st k
open Classical in
noncomputable def spread (l : List Ru) (st : Nat → St) : Nat → St := fun k => if (st k).isWaits = true ∧ Chain l st k then .left else st k
noncomputable def Bd.fail (d : Bd) (i c : Nat) : Bd := { d with st := spread d.l (setS d.st i (.failed c)) }
def mkr (l : List Ru) (x : List UInt8) : Option Nat := l.findIdx? fun r => r.out == x
def Bd.bytes (d : Bd) (x : List UInt8) : Option (List UInt8) :=
  match mkr d.l x with
  | some j => some (d.st j).out
  | none => Tf.get d.fs x
def inB (f : List UInt8 → Option (List UInt8)) : List (List UInt8) → Option (List (List UInt8))
  | [] => some []
  | x :: r => match f x with
    | none => none
    | some b => (inB f r).map (b :: ·)
theorem inB_len {f : List UInt8 → Option (List UInt8)} : ∀ {a o : List (List UInt8)}, inB f a = some o → o.length = a.length
  | [], o, h => by cases h; rfl
  | y :: r, o, h => by
    unfold inB at h
    cases hy : f y with
    | none => rw [hy] at h; cases h
    | some b =>
      rw [hy] at h
      cases hr : inB f r with
      | none => rw [hr] at h; cases h
      | some q =>
        rw [hr] at h
        obtain rfl : b :: q = o := by simpa using h
        simp [inB_len hr]
theorem inB_mem {f : List UInt8 → Option (List UInt8)} : ∀ {a o : List (List UInt8)}, inB f a = some o → ∀ b ∈ o, ∃ x ∈ a, f x = some b
  | [], o, h, b, hb => by cases h; cases hb
  | y :: r, o, h, b, hb => by
    unfold inB at h
    cases hy : f y with
    | none => rw [hy] at h; cases h
    | some c =>
      rw [hy] at h
      cases hr : inB f r with
      | none => rw [hr] at h; cases h
      | some q =>
        rw [hr] at h
        obtain rfl : c :: q = o := by simpa using h
        rcases List.mem_cons.1 hb with rfl | hb
        · exact ⟨y, by simp, hy⟩
        · obtain ⟨x, hx, e⟩ := inB_mem hr b hb
          exact ⟨x, List.mem_cons_of_mem _ hx, e⟩
abbrev Ca : Type := Option (Nat × Cf.Ens)
def cfind : Ca → List UInt8 → Option (List UInt8)
  | some (_, l), k => Cf.find l k
  | none, _ => none
def cget : Ca → List UInt8 → Ca
  | some (m, l), k => some (m, Cf.get m l k)
  | none, _ => none
def cput : Ca → List UInt8 → List UInt8 → Ca
  | some (m, l), k, b => some (m, Cf.put m l k b)
  | none, _, _ => none
structure Res where
  hit : Bool
  code : Nat
  d : Bd
  c : Ca
abbrev Act : Type := List UInt8 → List UInt8 → List (List UInt8) → List UInt8 × Nat
def Bd.rule (d : Bd) (i : Nat) : Ru := d.l.getD i ⟨[], [], [], []⟩
def Bd.ins (d : Bd) (i : Nat) : Option (List (List UInt8)) := inB d.bytes (d.rule i).ins
noncomputable def go (act : Act) (c : Ca) (d : Bd) (i : Nat) : Res :=
  match d.ins i with
  | none => ⟨false, 0, d.fail i 6, c⟩
  | some xs =>
    match cfind c (Kp.key (d.rule i).kind (d.rule i).word xs) with
    | some s => ⟨true, 0, d.set i (.done s true), cget c (Kp.key (d.rule i).kind (d.rule i).word xs)⟩
    | none =>
      if (act (d.rule i).kind (d.rule i).word xs).2 = 0 then ⟨false, 0, d.set i (.done (act (d.rule i).kind (d.rule i).word xs).1 false), cput c (Kp.key (d.rule i).kind (d.rule i).word xs) (act (d.rule i).kind (d.rule i).word xs).1⟩
      else ⟨false, 0, d.fail i (act (d.rule i).kind (d.rule i).word xs).2, c⟩
noncomputable def runN (act : Act) (c : Ca) (d : Bd) (i : Nat) : Res :=
  if (d.st i).isNo = true then ⟨false, 6, d, c⟩
  else if (d.st i).isWaits = false then ⟨false, 12, d, c⟩
  else if d.isReady i = false then ⟨false, 11, d, c⟩
  else go act c d i
noncomputable def run (act : Act) (c : Ca) (d : Bd) (i : Int) : Res :=
  if i < 0 ∨ (d.l.length : Int) ≤ i then ⟨false, 6, d, c⟩ else runN act c d i.toNat
def many (st : Nat → St) (p : St → Bool) : Nat → Nat
  | 0 => 0
  | n + 1 => many st p n + (if p (st n) = true then 1 else 0)
theorem many_le (st : Nat → St) (p : St → Bool) : ∀ n, many st p n ≤ n
  | 0 => Nat.le_refl _
  | n + 1 => by
    have := many_le st p n
    unfold many
    split <;> omega
theorem many_congr {st st' : Nat → St} {p : St → Bool} : ∀ {n : Nat}, (∀ k, k < n → p (st k) = p (st' k)) → many st p n = many st' p n
  | 0, _ => rfl
  | n + 1, h => by
    unfold many
    rw [many_congr fun k hk => h k (by omega), h n (by omega)]
theorem many_less {st st' : Nat → St} {p : St → Bool} {i : Nat} : ∀ {n : Nat}, i < n → p (st i) = true → p (st' i) = false → (∀ k, p (st' k) = true → p (st k) = true) → many st' p n < many st p n
  | 0, h, _, _, _ => by omega
  | n + 1, h, h1, h2, h3 => by
    have hle : ∀ m, many st' p m ≤ many st p m := by
      intro m
      induction m with
      | zero => exact Nat.le_refl _
      | succ m ih =>
        unfold many
        by_cases hp : p (st' m) = true
        · rw [if_pos hp, if_pos (h3 m hp)]; omega
        · rw [if_neg hp]; split <;> omega
    unfold many
    by_cases e : i = n
    · subst e
      have := hle i
      rw [if_pos h1, if_neg (by rw [h2]; simp)]
      omega
    · have ih := many_less (n := n) (by omega) h1 h2 h3
      by_cases hp : p (st' n) = true
      · rw [if_pos hp, if_pos (h3 n hp)]; omega
      · rw [if_neg hp]; split <;> omega
theorem many_zero {st : Nat → St} {p : St → Bool} : ∀ {n : Nat}, many st p n = 0 → ∀ k, k < n → p (st k) = false
  | 0, _, k, hk => by omega
  | n + 1, h, k, hk => by
    unfold many at h
    by_cases e : k = n
    · subst e
      cases hp : p (st k) with
      | false => rfl
      | true => rw [hp] at h; simp at h
    · exact many_zero (n := n) (by omega) k (by omega)
def Bd.waits (d : Bd) : Nat := many d.st St.isWaits d.l.length
theorem spread_waits {l : List Ru} {st : Nat → St} {k : Nat} (h : (spread l st k).isWaits = true) : (st k).isWaits = true ∧ ¬ Chain l st k := by
  unfold spread at h
  split at h
  · cases h
  · rename_i hn
    exact ⟨h, fun hc => hn ⟨h, hc⟩⟩
theorem spread_keeps {l : List Ru} {st : Nat → St} {k : Nat} (h : (st k).isWaits = false) : spread l st k = st k := by
  unfold spread
  rw [if_neg (by rw [h]; simp)]
theorem go_less (act : Act) (c : Ca) (d : Bd) (i : Nat) (hi : i < d.l.length) (hr : d.isReady i = true) : (go act c d i).d.waits < d.waits ∧ (go act c d i).d.l = d.l ∧ (go act c d i).d.fs = d.fs := by
  have hw := ready_waits hr
  have hset : ∀ s : St, s.isWaits = false → (d.set i s).waits < d.waits := fun s hs => by
    refine many_less (i := i) hi (by rw [hw]; rfl) ?_ fun k hk => ?_
    · show (setS d.st i s i).isWaits = false
      rw [setS_same]; exact hs
    · have hk' : (setS d.st i s k).isWaits = true := hk
      by_cases e : k = i
      · rw [e, hw]; rfl
      · rwa [setS_other e] at hk'
  have hfail : ∀ e, (d.fail i e).waits < d.waits := fun e => by
    refine many_less (i := i) hi (by rw [hw]; rfl) ?_ fun k hk => ?_
    · show (spread d.l (setS d.st i (.failed e)) i).isWaits = false
      rw [spread_keeps (by rw [setS_same]; rfl), setS_same]; rfl
    · have hk' := (spread_waits (show (spread d.l (setS d.st i (.failed e)) k).isWaits = true from hk)).1
      by_cases e : k = i
      · rw [e, hw]; rfl
      · rwa [setS_other e] at hk'
  unfold go
  split
  · exact ⟨hfail _, rfl, rfl⟩
  · split
    · exact ⟨hset _ rfl, rfl, rfl⟩
    · split
      · exact ⟨hset _ rfl, rfl, rfl⟩
      · exact ⟨hfail _, rfl, rfl⟩
theorem run_ready (act : Act) (c : Ca) (d : Bd) (i : Nat) (hi : i < d.l.length) (hr : d.isReady i = true) : run act c d i = go act c d i := by
  have hw := ready_waits hr
  unfold run runN
  rw [if_neg (by omega), if_neg (by simp [hw, St.isNo]), if_neg (by simp [hw, St.isWaits]), if_neg (by simp [hr])]
  simp
theorem run_l (act : Act) (c : Ca) (d : Bd) (i : Int) : (run act c d i).d.l = d.l ∧ (run act c d i).d.fs = d.fs := by
  unfold run
  split
  · exact ⟨rfl, rfl⟩
  · unfold runN
    split
    · exact ⟨rfl, rfl⟩
    · split
      · exact ⟨rfl, rfl⟩
      · split
        · exact ⟨rfl, rfl⟩
        · unfold go
          split
          · exact ⟨rfl, rfl⟩
          · split
            · exact ⟨rfl, rfl⟩
            · split <;> exact ⟨rfl, rfl⟩
noncomputable def allF (act : Act) : Nat → Ca → Bd → Bd × Ca
  | 0, c, d => (d, c)
  | f + 1, c, d =>
    match d.ready with
    | [] => (d, c)
    | i :: _ => allF act f (go act c d i).c (go act c d i).d
noncomputable def all (act : Act) (c : Ca) (d : Bd) : Bd × Ca := allF act (d.waits + 1) c d
theorem allF_enough (act : Act) : ∀ (f f' : Nat) (c : Ca) (d : Bd), d.waits < f → d.waits < f' → allF act f c d = allF act f' c d
  | 0, _, _, _, h, _ => by omega
  | _, 0, _, _, _, h => by omega
  | f + 1, f' + 1, c, d, h, h' => by
    unfold allF
    cases hr : d.ready with
    | nil => rfl
    | cons i r =>
      have hm := mem_ready.1 (show i ∈ d.ready by rw [hr]; simp)
      have := (go_less act c d i hm.1 hm.2).1
      exact allF_enough act f f' _ _ (by omega) (by omega)
theorem all_nil (act : Act) (c : Ca) (d : Bd) (h : d.ready = []) : all act c d = (d, c) := by
  unfold all allF
  rw [h]
theorem all_cons (act : Act) (c : Ca) (d : Bd) {i : Nat} {r : List Nat} (h : d.ready = i :: r) : all act c d = all act (go act c d i).c (go act c d i).d := by
  have hm := mem_ready.1 (show i ∈ d.ready by rw [h]; simp)
  have := (go_less act c d i hm.1 hm.2).1
  conv => lhs; unfold all allF
  rw [h]
  exact allF_enough act _ _ _ _ (by omega) (by omega)
end Bf
end Go.Proofs.YtbgkfmodbofalaaGreatDoor
namespace Go.Proofs.YtbgkfmodbofalaaGreatDoor
namespace Bf
def Later (a b : Nat → St) : Prop := ∀ k, b k = a k ∨ ((a k).isWaits = true ∧ b k = .left)
theorem Later.refl (a : Nat → St) : Later a a := fun _ => .inl rfl
theorem Later.bad {a b : Nat → St} (h : Later a b) {k : Nat} (hk : (a k).isBad = true) : (b k).isBad = true := by
  rcases h k with e | ⟨_, e⟩
  · rw [e]; exact hk
  · rw [e]; rfl
theorem Later.waits {a b : Nat → St} (h : Later a b) {k : Nat} (hk : (b k).isWaits = true) : (a k).isWaits = true := by
  rcases h k with e | ⟨_, e⟩
  · rw [← e]; exact hk
  · rw [e] at hk; cases hk
def Mid (l : List Ru) (a b : Nat → St) : Prop := ∀ k, b k = a k ∨ ((a k).isWaits = true ∧ Chain l a k ∧ b k = .left)
theorem Mid.refl (l : List Ru) (a : Nat → St) : Mid l a a := fun _ => .inl rfl
theorem Mid.later {l : List Ru} {a b : Nat → St} (h : Mid l a b) : Later a b := fun k => (h k).imp_right fun x => ⟨x.1, x.2.2⟩
theorem Mid.step {l : List Ru} {a b : Nat → St} (h : Mid l a b) {k j : Nat} (hw : (b k).isWaits = true) (hb : (b j).isBad = true) (hn : Ru.needs l k j = true) : Mid l a (setS b k .left) := by
  intro x
  by_cases e : x = k
  · subst e
    right
    rw [setS_same]
    refine ⟨h.later.waits hw, ?_, rfl⟩
    rcases h j with e1 | ⟨w1, c1, _⟩
    · exact .one hn (e1 ▸ hb)
    · exact .more hn w1 c1
  · rw [setS_other e]
    exact h x
def Closed (l : List Ru) (b : Nat → St) : Prop := ∀ k j, Ru.needs l k j = true → (b j).isBad = true → (b k).isWaits = false
theorem Mid.closed {l : List Ru} {a b : Nat → St} (h : Mid l a b) (hc : Closed l b) : ∀ k, b k = spread l a k := by
  have key : ∀ k, Chain l a k → (a k).isWaits = true → b k = .left := by
    intro k hk
    induction hk with
    | @one k j hn hb =>
      intro hw
      have h1 := hc k j hn (h.later.bad hb)
      rcases h k with e | ⟨_, _, e⟩
      · rw [e, hw] at h1; cases h1
      · exact e
    | @more k j hn hwj _ ih =>
      intro hw
      have h1 := hc k j hn (by rw [ih hwj]; rfl)
      rcases h k with e | ⟨_, _, e⟩
      · rw [e, hw] at h1; cases h1
      · exact e
  intro k
  unfold spread
  split
  · rename_i hx
    exact key k hx.2 hx.1
  · rename_i hx
    rcases h k with e | ⟨h1, h2, _⟩
    · exact e
    · exact absurd ⟨h1, h2⟩ hx
structure Sweep (l : List Ru) (s0 s1 cur : Nat → St) (a b : Nat) : Prop where
  mid : Mid l s0 cur
  later : Later s1 cur
  seen : ∀ k j, (k < a ∨ (k = a ∧ j < b)) → j < l.length → Ru.needs l k j = true → (s1 j).isBad = true → (cur k).isWaits = false
theorem Sweep.start {l : List Ru} {s0 cur : Nat → St} (h : Mid l s0 cur) : Sweep l s0 cur cur 0 0 := ⟨h, Later.refl _, fun k j hk => by omega⟩
theorem Sweep.hit {l : List Ru} {s0 s1 cur : Nat → St} {a b : Nat} (h : Sweep l s0 s1 cur a b) (hw : (cur a).isWaits = true) (hb : (cur b).isBad = true) (hn : Ru.needs l a b = true) : Sweep l s0 s1 (setS cur a .left) a (b + 1) := by
  refine ⟨h.mid.step hw hb hn, fun k => ?_, fun k j hk hj hnk hbj => ?_⟩
  · by_cases e : k = a
    · subst e
      right
      rw [setS_same]
      exact ⟨h.later.waits hw, rfl⟩
    · rw [setS_other e]
      exact h.later k
  · by_cases e : k = a
    · subst e
      rw [setS_same]
      rfl
    · rw [setS_other e]
      exact h.seen k j (by omega) hj hnk hbj
theorem Sweep.row {l : List Ru} {s0 s1 cur : Nat → St} {a : Nat} (h : Sweep l s0 s1 cur a l.length) : Sweep l s0 s1 cur (a + 1) 0 :=
  ⟨h.mid, h.later, fun k j hk hj => h.seen k j (by omega) hj⟩
structure Round (l : List Ru) (s0 cur : Nat → St) (r : Nat) : Prop where
  mid : Mid l s0 cur
  less : Closed l cur ∨ many cur St.isWaits l.length + r ≤ many s0 St.isWaits l.length
theorem Round.start (l : List Ru) (s0 : Nat → St) : Round l s0 s0 0 := ⟨Mid.refl _ _, .inr (Nat.le_refl _)⟩
theorem Round.next {l : List Ru} {s0 s1 cur : Nat → St} {r : Nat} (h : Round l s0 s1 r) (hs : Sweep l s0 s1 cur l.length 0) : Round l s0 cur (r + 1) := by
  refine ⟨hs.mid, ?_⟩
  by_cases hc : Closed l s1
  · left
    have e : ∀ k, cur k = s1 k := fun k => by
      rcases hs.mid.later k with h1 | ⟨h1, h2⟩
      · rcases hs.later k with h3 | ⟨h3, h4⟩
        · exact h3
        · rcases hs.mid k with h5 | ⟨h5, h6, h7⟩
          · have hw1 : (s0 k).isWaits = true := h.mid.later.waits h3
            rw [← h5, h4] at hw1
            cases hw1
          · rw [h1] at h7
            rw [h7] at h5
            cases h5
      · rcases hs.mid k with h5 | ⟨h5, h6, h7⟩
        · rw [h2] at h5
          rw [← h5] at h1
          cases h1
        · have h8 := h.mid.closed hc k
          rw [h8, h7]
          unfold spread
          rw [if_pos ⟨h5, h6⟩]
    intro k j hn hb
    rw [e k]
    exact hc k j hn (e j ▸ hb)
  · right
    have hl : many s1 St.isWaits l.length + r ≤ many s0 St.isWaits l.length := by
      rcases h.less with h1 | h1
      · exact absurd h1 hc
      · exact h1
    have : ∃ k j, Ru.needs l k j = true ∧ (s1 j).isBad = true ∧ (s1 k).isWaits = true := by
      refine Classical.byContradiction fun hx => hc fun k j hn hb => ?_
      cases hw : (s1 k).isWaits with
      | false => rfl
      | true => exact absurd ⟨k, j, hn, hb, hw⟩ hx
    obtain ⟨k, j, hn, hb, hw⟩ := this
    have hlt := Ru.needs_lt hn
    have h2 := hs.seen k j (.inl hlt.1) hlt.2 hn hb
    have := many_less (p := St.isWaits) (st := s1) (st' := cur) (i := k) (n := l.length) hlt.1 hw h2 fun x hx => hs.later.waits hx
    omega
theorem Round.end {l : List Ru} {s0 cur : Nat → St} (h : Round l s0 cur l.length) {i : Nat} (hi : i < l.length) (hf : (s0 i).isWaits = false) : ∀ k, cur k = spread l s0 k := by
  refine h.mid.closed ?_
  rcases h.less with h1 | h1
  · exact h1
  · exfalso
    have : ∀ n, i < n → many s0 St.isWaits n < n := by
      intro n
      induction n with
      | zero => intro h; omega
      | succ n ih =>
        intro hn
        unfold many
        by_cases e : i = n
        · subst e
          have := many_le s0 St.isWaits i
          rw [if_neg (by rw [hf]; simp)]
          omega
        · have := ih (by omega)
          split <;> omega
    have := this l.length hi
    omega
structure Fit (d : Bd) : Prop where
  files : ∀ f ∈ d.fs, f.2.length ≤ 2000
  outs : ∀ k, (d.st k).out.length ≤ 2000
  whys : ∀ k, (d.st k).why ≤ 12
def CFit : Ca → Prop
  | none => True
  | some (m, l) => 1 ≤ m ∧ m ≤ 100 ∧ Cf.Ok m l ∧ ∀ e ∈ l, e.2.length ≤ 2000
def ActFit (act : Act) : Prop := ∀ k w xs, (act k w xs).2 ≤ 12 ∧ ((act k w xs).2 = 0 → (act k w xs).1.length ≤ 2000)
theorem get_mem {fs : Tf.Fs} {p b : List UInt8} (h : Tf.get fs p = some b) : (p, b) ∈ fs := by
  unfold Tf.get at h
  cases hf : fs.find? fun f => f.1 == p with
  | none => rw [hf] at h; cases h
  | some e =>
    rw [hf] at h
    have h1 := List.find?_some hf
    have h2 := List.mem_of_find?_eq_some hf
    have e1 : e.1 = p := by simpa using h1
    have e2 : e.2 = b := by simpa using h
    rw [← e1, ← e2]
    exact h2
theorem Fit.bytes {d : Bd} (h : Fit d) {x b : List UInt8} (hb : d.bytes x = some b) : b.length ≤ 2000 := by
  unfold Bd.bytes at hb
  split at hb
  · rename_i j _
    rw [← Option.some.inj hb]
    exact h.outs j
  · exact h.files _ (get_mem hb)
theorem Fit.ins {d : Bd} (h : Fit d) {i : Nat} {xs : List (List UInt8)} (hx : d.ins i = some xs) : xs.length = (d.rule i).ins.length ∧ ∀ x ∈ xs, x.length ≤ 2000 :=
  ⟨inB_len hx, fun x hxm => by
    obtain ⟨y, _, hy⟩ := inB_mem hx x hxm
    exact h.bytes hy⟩
theorem Fit.set {d : Bd} (h : Fit d) (i : Nat) {s : St} (hs : s.out.length ≤ 2000) (hw : s.why ≤ 12) : Fit (d.set i s) :=
  ⟨h.files, fun k => by
    show (setS d.st i s k).out.length ≤ 2000
    unfold setS
    split
    · exact hs
    · exact h.outs k, fun k => by
    show (setS d.st i s k).why ≤ 12
    unfold setS
    split
    · exact hw
    · exact h.whys k⟩
theorem Fit.fail {d : Bd} (h : Fit d) (i : Nat) {c : Nat} (hc : c ≤ 12) : Fit (d.fail i c) :=
  ⟨h.files, fun k => by
    show (spread d.l (setS d.st i (.failed c)) k).out.length ≤ 2000
    unfold spread
    split
    · simp [St.out]
    · unfold setS
      split
      · simp [St.out]
      · exact h.outs k, fun k => by
    show (spread d.l (setS d.st i (.failed c)) k).why ≤ 12
    unfold spread
    split
    · simp [St.why]
    · unfold setS
      split
      · simpa [St.why] using hc
      · exact h.whys k⟩
theorem CFit.find {c : Ca} (h : CFit c) {k b : List UInt8} (hf : cfind c k = some b) : b.length ≤ 2000 := by
  match c, h, hf with
  | some (m, l), h, hf => exact h.2.2.2 _ (Cf.find_some hf)
theorem mem_put {m : Nat} {l : Cf.Ens} {k b : List UInt8} {e : Cf.En} (h : e ∈ Cf.put m l k b) : e ∈ l ∨ e = (k, b) := by
  have h1 : e ∈ Cf.rm l k ++ [(k, b)] := by
    unfold Cf.put Cf.cut at h
    split at h
    · exact (List.drop_sublist 1 _).subset h
    · exact h
  rcases List.mem_append.1 h1 with h2 | h2
  · exact .inl (Cf.mem_rm.1 h2).1
  · exact .inr (List.mem_singleton.1 h2)
theorem CFit.put {c : Ca} (h : CFit c) (k : List UInt8) {b : List UInt8} (hb : b.length ≤ 2000) : CFit (cput c k b) := by
  match c, h with
  | none, _ => trivial
  | some (m, l), h =>
    refine ⟨h.1, h.2.1, h.2.2.1.put k b, fun e he => ?_⟩
    rcases mem_put he with h1 | h1
    · exact h.2.2.2 e h1
    · rw [h1]; exact hb
theorem CFit.get {c : Ca} (h : CFit c) (k : List UInt8) : CFit (cget c k) := by
  match c, h with
  | none, _ => trivial
  | some (m, l), h =>
    refine ⟨h.1, h.2.1, h.2.2.1.get k, fun e he => ?_⟩
    have he' : e ∈ Cf.get m l k := he
    unfold Cf.get at he'
    split at he'
    · rename_i b hb
      rcases mem_put he' with h1 | h1
      · exact h.2.2.2 e h1
      · rw [h1]; exact h.2.2.2 _ (Cf.find_some hb)
    · exact h.2.2.2 e he'
theorem go_fit {act : Act} (ha : ActFit act) {c : Ca} {d : Bd} (hc : CFit c) (hd : Fit d) (i : Nat) : Fit (go act c d i).d ∧ CFit (go act c d i).c := by
  unfold go
  split
  · exact ⟨hd.fail _ (by omega), hc⟩
  · split
    · rename_i s hs
      exact ⟨hd.set _ (hc.find hs) (by simp [St.why]), hc.get _⟩
    · split
      · rename_i h0
        exact ⟨hd.set _ ((ha _ _ _).2 h0) (by simp [St.why]), hc.put _ ((ha _ _ _).2 h0)⟩
      · exact ⟨hd.fail _ (ha _ _ _).1, hc⟩
theorem run_fit {act : Act} (ha : ActFit act) {c : Ca} {d : Bd} (hc : CFit c) (hd : Fit d) (i : Int) : Fit (run act c d i).d ∧ CFit (run act c d i).c := by
  unfold run
  split
  · exact ⟨hd, hc⟩
  · unfold runN
    split
    · exact ⟨hd, hc⟩
    · split
      · exact ⟨hd, hc⟩
      · split
        · exact ⟨hd, hc⟩
        · exact go_fit ha hc hd _
theorem go_some (act : Act) (c : Ca) (d : Bd) (i : Nat) : (go act c d i).c.isSome = c.isSome := by
  unfold go
  split
  · rfl
  · split
    · cases c <;> rfl
    · split
      · cases c <;> rfl
      · rfl
end Bf
end Go.Proofs.YtbgkfmodbofalaaGreatDoor
