/- Plain functions on bytes that say what package tree answers: files, paths rising; putting, taking, a text of them, reading it. No Go text, no program. -/
import Derived.Lib.Bytealg
import Derived.Lib.Strings
import Derived.Lib.IndexMore
import Derived.Lib.Atoi
import Derived.Lib.ItoaNum
import Derived.Lib.ItoaMem
import Derived.Maps.OwnSet
import Derived.Sort.KeysCollected
import Derived.WideAt
import Derived.WideShapes
namespace Go.Proofs.YtigcogfjclohjaaGreatDoor.Tf
open Go.Maps

/-- Files: path and bytes. -/
abbrev Fs := List (List UInt8 × List UInt8)

/-- How a map of files reads. -/
def datum (fs : Fs) : DataW Unit := .map (fs.map fun f => (Lit.string f.1, DataW.lit (.string f.2)))

def Rises (fs : Fs) : Prop := fs.Pairwise (fun a b => bytesBefore a.1 b.1 = true)

def ins (x : List UInt8 × List UInt8) : Fs → Fs
  | [] => [x]
  | y :: r => if bytesBefore x.1 y.1 then x :: y :: r else y :: ins x r
def del (fs : Fs) (p : List UInt8) : Fs := fs.filter fun f => !(f.1 == p)
def put (fs : Fs) (p b : List UInt8) : Fs := ins (p, b) (del fs p)
def hasP (fs : Fs) (p : List UInt8) : Bool := fs.any fun f => f.1 == p
def get (fs : Fs) (p : List UInt8) : Option (List UInt8) := (fs.find? fun f => f.1 == p).map (·.2)

theorem datum_ins (x : List UInt8 × List UInt8) : ∀ fs : Fs, DataW.insert (Lit.string x.1, DataW.lit (H := Unit) (.string x.2)) (fs.map fun f => (Lit.string f.1, DataW.lit (.string f.2))) = (ins x fs).map fun f => (Lit.string f.1, DataW.lit (.string f.2))
  | [] => rfl
  | y :: r => by
    unfold ins
    by_cases h : bytesBefore x.1 y.1 = true
    · have h' : (Lit.string x.1).before (Lit.string y.1) = true := h
      simp only [List.map_cons, DataW.insert]
      rw [if_pos h', if_pos h]
      rfl
    · have h' : ¬ (Lit.string x.1).before (Lit.string y.1) = true := h
      simp only [List.map_cons, DataW.insert]
      rw [if_neg h', if_neg h, datum_ins x r]
      rfl

theorem datum_filter (p : List UInt8) (fs : Fs) : (fs.map fun f => (Lit.string f.1, DataW.lit (H := Unit) (.string f.2))).filter (fun q => !q.1.sameKey (.string p)) = (del fs p).map fun f => (Lit.string f.1, DataW.lit (.string f.2)) := by
  unfold del
  rw [List.filter_map]
  rfl

theorem datum_put (fs : Fs) (p b : List UInt8) : (datum fs).put (.string p) (.lit (.string b)) = datum (put fs p b) := by
  unfold datum put DataW.put
  simp only
  rw [datum_filter, ← datum_ins]

theorem datum_del (fs : Fs) (p : List UInt8) : (datum fs).del (.string p) = datum (del fs p) := by
  unfold datum DataW.del
  simp only
  rw [datum_filter]

theorem datum_has (fs : Fs) (p : List UInt8) : Maps.has (datum fs) (.string p) = hasP fs p := by
  unfold datum hasP
  rw [has_eq, List.any_map]
  rfl

theorem datum_at (fs : Fs) (p : List UInt8) (z : DataW Unit) : (datum fs).atKey (.string p) z = match get fs p with | some b => .lit (.string b) | none => z := by
  unfold datum get DataW.atKey
  simp only
  rw [List.find?_map]
  rw [show ((fun q : Lit × DataW Unit => q.1.sameKey (.string p)) ∘ fun f : List UInt8 × List UInt8 => (Lit.string f.1, DataW.lit (H := Unit) (.string f.2))) = (fun f => f.1 == p) from rfl]
  cases List.find? (fun f => f.1 == p) fs <;> rfl

theorem datum_size (fs : Fs) : Maps.size (datum fs) = fs.length := by simp [datum, size_eq]

theorem datum_keys (fs : Fs) : strKeys (datum fs) = fs.map (·.1) := by simp [datum, strKeys, strOf]

theorem before_lt : ∀ (x y : List UInt8), bytesBefore x y = true ↔ x < y
  | [], [] => by simp [bytesBefore]
  | [], _ :: _ => by simp [bytesBefore]
  | _ :: _, [] => by simp [bytesBefore]
  | a :: r, b :: s => by
    rw [List.cons_lt_cons_iff, ← before_lt r s]
    simp [bytesBefore]

theorem less_before : ∀ (x y : List UInt8), Op.bytesLess x y = bytesBefore x y
  | [], [] => rfl
  | [], _ :: _ => rfl
  | _ :: _, [] => rfl
  | a :: r, b :: s => by simp [Op.bytesLess, bytesBefore, less_before r s]

theorem Rises.sorted {fs : Fs} (h : Rises fs) : (fs.map (·.1)).mergeSort (fun x y => decide (x ≤ y)) = fs.map (·.1) := by
  refine List.mergeSort_of_pairwise ?_
  rw [List.pairwise_map]
  exact h.imp fun {a b} hab => by
    have := (before_lt a.1 b.1).1 hab
    simpa using List.le_of_lt this

theorem Rises.del {fs : Fs} (h : Rises fs) (p : List UInt8) : Rises (del fs p) := List.Pairwise.filter _ h

theorem mem_ins (x y : List UInt8 × List UInt8) : ∀ fs : Fs, y ∈ ins x fs ↔ y = x ∨ y ∈ fs
  | [] => by simp [ins]
  | f :: r => by
    unfold ins
    split
    · simp
    · simp only [List.mem_cons, mem_ins x y r]
      constructor
      · rintro (h | h | h) <;> simp [h]
      · rintro (h | h | h) <;> simp [h]

theorem Rises.ins {fs : Fs} (h : Rises fs) {x : List UInt8 × List UInt8} (hx : ∀ f ∈ fs, f.1 ≠ x.1) : Rises (ins x fs) := by
  induction fs with
  | nil => simp [Tf.ins, Rises]
  | cons f r ih =>
    unfold Tf.ins
    have h' := List.pairwise_cons.1 h
    split
    · rename_i hb
      refine List.pairwise_cons.2 ⟨fun g hg => ?_, h⟩
      rcases List.mem_cons.1 hg with rfl | hg
      · exact hb
      · exact WideShapes.bytes_trans _ _ _ hb (h'.1 g hg)
    · rename_i hb
      refine List.pairwise_cons.2 ⟨fun g hg => ?_, ih h'.2 fun g hg => hx g (List.mem_cons_of_mem _ hg)⟩
      rcases (mem_ins x g r).1 hg with rfl | hg
      · rcases WideAt.bytes_total f.1 g.1 (hx f (by simp)) with h1 | h1
        · exact h1
        · exact absurd h1 hb
      · exact h'.1 g hg

theorem mem_del {fs : Fs} {p : List UInt8} {f : List UInt8 × List UInt8} : f ∈ del fs p ↔ f ∈ fs ∧ f.1 ≠ p := by simp [del]

theorem Rises.put {fs : Fs} (h : Rises fs) (p b : List UInt8) : Rises (put fs p b) := (h.del p).ins fun _ hf => (mem_del.1 hf).2

theorem mem_put {fs : Fs} {p b : List UInt8} {f : List UInt8 × List UInt8} : f ∈ put fs p b ↔ f = (p, b) ∨ (f ∈ fs ∧ f.1 ≠ p) := by
  unfold put
  rw [mem_ins, mem_del]

theorem length_ins (x : List UInt8 × List UInt8) : ∀ fs : Fs, (ins x fs).length = fs.length + 1
  | [] => rfl
  | f :: r => by
    unfold ins
    split
    · rfl
    · simp [length_ins x r]

theorem del_none {fs : Fs} {p : List UInt8} (h : hasP fs p = false) : del fs p = fs := by
  unfold del hasP at *
  rw [List.filter_eq_self]
  intro f hf
  have := List.any_eq_false.1 h f hf
  simpa using this

theorem length_del_le (fs : Fs) (p : List UInt8) : (del fs p).length ≤ fs.length := List.length_filter_le _ _

theorem length_del_lt {fs : Fs} {p : List UInt8} (h : hasP fs p = true) : (del fs p).length < fs.length := by
  unfold del hasP at *
  obtain ⟨f, hf, hp⟩ := List.any_eq_true.1 h
  rcases Nat.lt_or_ge (fs.filter fun f => !(f.1 == p)).length fs.length with h1 | h1
  · exact h1
  · have e := List.filter_eq_self.1 (List.Sublist.eq_of_length_le (List.filter_sublist) h1) f hf
    simp [hp] at e

/-- Is a path above another one? -/
def above (a b : List UInt8) : Bool := Lib.hasPrefix b (a ++ [47])
def clash (fs : Fs) (p : List UInt8) : Bool := fs.any fun f => above f.1 p || above p f.1

/-- The error of Put (0: none); ok: is it a path? -/
def putCode (ok : List UInt8 → Bool) (fs : Fs) (p b : List UInt8) : Nat :=
  if ok p = false then 4 else if 2000 < b.length then 2 else if hasP fs p then 0 else if clash fs p then 7 else if 60 ≤ fs.length then 8 else 0
def putF (ok : List UInt8 → Bool) (fs : Fs) (p b : List UInt8) : Fs := if putCode ok fs p b = 0 then put fs p b else fs

/-- What a tree's files keep. -/
structure Well (ok : List UInt8 → Bool) (fs : Fs) : Prop where
  rises : Rises fs
  few : fs.length ≤ 60
  each : ∀ f ∈ fs, ok f.1 = true ∧ f.2.length ≤ 2000
  apart : ∀ f ∈ fs, ∀ g ∈ fs, above f.1 g.1 = false

theorem above_self (p : List UInt8) : above p p = false := by
  unfold above Lib.hasPrefix
  cases h : (p ++ [47]).isPrefixOf p with
  | false => rfl
  | true =>
    have := (List.isPrefixOf_iff_prefix.1 h).length_le
    simp at this
    omega

theorem Well.nil (ok : List UInt8 → Bool) : Well ok [] := ⟨List.Pairwise.nil, by simp, by simp, by simp⟩

theorem Well.del {ok : List UInt8 → Bool} {fs : Fs} (h : Well ok fs) (p : List UInt8) : Well ok (del fs p) :=
  ⟨h.rises.del p, Nat.le_trans (length_del_le _ _) h.few, fun f hf => h.each f (mem_del.1 hf).1, fun f hf g hg => h.apart f (mem_del.1 hf).1 g (mem_del.1 hg).1⟩

theorem Well.put {ok : List UInt8 → Bool} {fs : Fs} (h : Well ok fs) {p b : List UInt8} (hc : putCode ok fs p b = 0) : Well ok (put fs p b) := by
  unfold putCode at hc
  split at hc
  · cases hc
  rename_i hok
  split at hc
  · cases hc
  rename_i hb
  have hok' : ok p = true := by simpa using hok
  refine ⟨h.rises.put p b, ?_, ?_, ?_⟩
  · unfold Tf.put
    rw [length_ins]
    have := h.few
    split at hc
    · rename_i hh
      have := length_del_lt hh
      omega
    · rename_i hh
      have hh' : hasP fs p = false := by simpa using hh
      rw [del_none hh']
      split at hc
      · cases hc
      split at hc
      · cases hc
      · omega
  · intro f hf
    rcases mem_put.1 hf with rfl | ⟨hf, _⟩
    · exact ⟨hok', by simpa using hb⟩
    · exact h.each f hf
  · have key : ∀ f ∈ fs, f.1 ≠ p → above f.1 p = false ∧ above p f.1 = false := by
      intro f hf hne
      split at hc
      · rename_i hh
        obtain ⟨g, hg, hgp⟩ := List.any_eq_true.1 hh
        obtain rfl : g.1 = p := by simpa using hgp
        exact ⟨h.apart f hf g hg, h.apart g hg f hf⟩
      · split at hc
        · cases hc
        · rename_i hcl
          have hcl' : clash fs p = false := by simpa using hcl
          have := List.any_eq_false.1 hcl' f hf
          simpa using this
    intro f hf g hg
    rcases mem_put.1 hf with rfl | ⟨hf, hfp⟩ <;> rcases mem_put.1 hg with rfl | ⟨hg, hgp⟩
    · exact above_self p
    · exact (key g hg hgp).2
    · exact (key f hf hfp).1
    · exact h.apart f hf g hg

theorem Well.putF {ok : List UInt8 → Bool} {fs : Fs} (h : Well ok fs) (p b : List UInt8) : Well ok (putF ok fs p b) := by
  unfold Tf.putF
  split
  · rename_i hc; exact h.put hc
  · exact h

/-! ### Put in rising order -/
theorem put_last {fs : Fs} {p b : List UInt8} (h : ∀ f ∈ fs, bytesBefore f.1 p = true) : put fs p b = fs ++ [(p, b)] := by
  have hne : hasP fs p = false := by
    unfold hasP
    rw [List.any_eq_false]
    intro f hf
    have h1 := h f hf
    intro h2
    obtain rfl : f.1 = p := by simpa using h2
    rw [WideAt.bytes_irrefl] at h1
    cases h1
  unfold put
  rw [del_none hne]
  clear hne
  induction fs with
  | nil => rfl
  | cons f r ih =>
    unfold ins
    have h1 := h f (by simp)
    have h2 : bytesBefore p f.1 = false := by
      cases hb : bytesBefore p f.1 with
      | false => rfl
      | true =>
        have := WideShapes.bytes_trans _ _ _ h1 hb
        rw [WideAt.bytes_irrefl] at this
        cases this
    simp only [h2, Bool.false_eq_true, if_false]
    rw [ih fun g hg => h g (List.mem_cons_of_mem _ hg)]
    rfl

def puts (es : Fs) : Fs := es.foldl (fun t e => put t e.1 e.2) []

theorem puts_snoc (es : Fs) (e : List UInt8 × List UInt8) : puts (es ++ [e]) = put (puts es) e.1 e.2 := by simp [puts]

theorem Rises.take {fs : Fs} (h : Rises fs) (k : Nat) : Rises (fs.take k) := h.sublist (List.take_sublist _ _)

theorem Rises.before_at {fs : Fs} (h : Rises fs) {k : Nat} (hk : k < fs.length) : ∀ f ∈ fs.take k, bytesBefore f.1 fs[k].1 = true := by
  intro f hf
  obtain ⟨j, hj, rfl⟩ := List.mem_iff_getElem.1 hf
  rw [List.length_take] at hj
  rw [List.getElem_take]
  exact List.pairwise_iff_getElem.1 h j k (by omega) hk (by omega)

theorem puts_take {fs : Fs} (h : Rises fs) : ∀ k, k ≤ fs.length → puts (fs.take k) = fs.take k
  | 0, _ => by simp [puts]
  | k + 1, hk => by
    rw [List.take_succ_eq_append_getElem (by omega), puts_snoc, puts_take h k (by omega), put_last (h.before_at (by omega))]

theorem puts_self {fs : Fs} (h : Rises fs) : puts fs = fs := by
  have := puts_take h fs.length (Nat.le_refl _)
  simpa using this

theorem hasP_take {fs : Fs} (h : Rises fs) {k : Nat} (hk : k < fs.length) : hasP (fs.take k) fs[k].1 = false := by
  unfold hasP
  rw [List.any_eq_false]
  intro f hf h2
  have h1 := h.before_at hk f hf
  rw [show f.1 = fs[k].1 by simpa using h2, WideAt.bytes_irrefl] at h1
  cases h1

theorem Well.code_take {ok : List UInt8 → Bool} {fs : Fs} (h : Well ok fs) {k : Nat} (hk : k < fs.length) : putCode ok (puts (fs.take k)) fs[k].1 fs[k].2 = 0 := by
  rw [puts_take h.rises k (by omega)]
  have hm : fs[k] ∈ fs := List.getElem_mem hk
  obtain ⟨h1, h2⟩ := h.each _ hm
  have h3 := h.few
  unfold putCode
  rw [if_neg (by simp [h1]), if_neg (by omega), if_neg (by simp [hasP_take h.rises hk]), if_neg, if_neg (by simp; omega)]
  unfold clash
  rw [List.any_eq_true]
  rintro ⟨f, hf, hx⟩
  have hf' := List.mem_of_mem_take hf
  rw [h.apart f hf' _ hm, h.apart _ hm f hf'] at hx
  simp at hx

/-! ### The text -/
def entryT (f : List UInt8 × List UInt8) : List UInt8 := f.1 ++ 32 :: (Lib.decDigits f.2.length ++ 10 :: (f.2 ++ [10]))
def textT (fs : Fs) : List UInt8 := fs.flatMap entryT

/-- A number that is written just so: at most four digits. -/
def numT (d : List UInt8) : Option Nat :=
  if 4 < d.length then none else match Lib.atoi d with
    | some n => if 0 ≤ n ∧ Lib.itoa n = d then some n.toNat else none
    | none => none

/-- The first entry of a text, and what is behind it. -/
def readE (s : List UInt8) : Option ((List UInt8 × List UInt8) × List UInt8) :=
  if (Lib.cut s [10]).2.2 = false then none
  else if (Lib.cut (Lib.cut s [10]).1 [32]).2.2 = false then none
  else match numT (Lib.cut (Lib.cut s [10]).1 [32]).2.1 with
    | none => none
    | some n =>
      if (Lib.cut s [10]).2.1.length < n then none
      else if Lib.hasPrefix ((Lib.cut s [10]).2.1.drop n) [10] = false then none
      else some (((Lib.cut (Lib.cut s [10]).1 [32]).1, (Lib.cut s [10]).2.1.take n), (Lib.cut s [10]).2.1.drop (n + 1))

inductive Parse : List UInt8 → Fs → Prop
  | nil : Parse [] []
  | cons {s r : List UInt8} {e : List UInt8 × List UInt8} {es : Fs} : s ≠ [] → readE s = some (e, r) → Parse r es → Parse s (e :: es)
end Go.Proofs.YtigcogfjclohjaaGreatDoor.Tf
