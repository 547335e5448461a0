/- Plain functions on bytes that say what package tree answers: files, paths rising; putting, taking, a text of them, reading it. No Go text, no program. -/
import Derived.Lib.Bytealg
import Derived.Lib.Strings
import Derived.Lib.IndexMore
import Derived.Lib.Atoi
import Derived.Lib.ItoaNum
import Derived.Lib.ItoaMem
import Derived.Maps.OwnSet
import Derived.Sort.KeysCollected
import Derived.WideAt
import Derived.WideShapes
import Derived.Test.YtmeplgihnlpjcaaGreatDoorMG4
import Derived.Lib.IndexLaws
import Derived.Test.YtmeplgihnlpjcaaGreatDoorMG2
namespace Go.Proofs.YtmeplgihnlpjcaaGreatDoor.Tf
open Go.Maps

/-- Files: path and bytes. -/
abbrev Fs := List (List UInt8 × List UInt8)

/-- How a map of files reads. -/
def datum (fs : Fs) : DataW Unit := .map (fs.map fun f => (Lit.string f.1, DataW.lit (.string f.2)))

def Rises (fs : Fs) : Prop := fs.Pairwise (fun a b => bytesBefore a.1 b.1 = true)

def ins (x : List UInt8 × List UInt8) : Fs → Fs
  | [] => [x]
  | y :: r => if bytesBefore x.1 y.1 then x :: y :: r else y :: ins x r
def del (fs : Fs) (p : List UInt8) : Fs := fs.filter fun f => !(f.1 == p)
def put (fs : Fs) (p b : List UInt8) : Fs := ins (p, b) (del fs p)
def hasP (fs : Fs) (p : List UInt8) : Bool := fs.any fun f => f.1 == p
def get (fs : Fs) (p : List UInt8) : Option (List UInt8) := (fs.find? fun f => f.1 == p).map (·.2)

theorem datum_ins (x : List UInt8 × List UInt8) : ∀ fs : Fs, DataW.insert (Lit.string x.1, DataW.lit (H := Unit) (.string x.2)) (fs.map fun f => (Lit.string f.1, DataW.lit (.string f.2))) = (ins x fs).map fun f => (Lit.string f.1, DataW.lit (.string f.2))
  | [] => rfl
  | y :: r => by
    unfold ins
    by_cases h : bytesBefore x.1 y.1 = true
    · have h' : (Lit.string x.1).before (Lit.string y.1) = true := h
      simp only [List.map_cons, DataW.insert]
      rw [if_pos h', if_pos h]
      rfl
    · have h' : ¬ (Lit.string x.1).before (Lit.string y.1) = true := h
      simp only [List.map_cons, DataW.insert]
      rw [if_neg h', if_neg h, datum_ins x r]
      rfl

theorem datum_filter (p : List UInt8) (fs : Fs) : (fs.map fun f => (Lit.string f.1, DataW.lit (H := Unit) (.string f.2))).filter (fun q => !q.1.sameKey (.string p)) = (del fs p).map fun f => (Lit.string f.1, DataW.lit (.string f.2)) := by
  unfold del
  rw [List.filter_map]
  rfl

theorem datum_put (fs : Fs) (p b : List UInt8) : (datum fs).put (.string p) (.lit (.string b)) = datum (put fs p b) := by
  unfold datum put DataW.put
  simp only
  rw [datum_filter, ← datum_ins]

theorem datum_del (fs : Fs) (p : List UInt8) : (datum fs).del (.string p) = datum (del fs p) := by
  unfold datum DataW.del
  simp only
  rw [datum_filter]

theorem datum_has (fs : Fs) (p : List UInt8) : Maps.has (datum fs) (.string p) = hasP fs p := by
  unfold datum hasP
  rw [has_eq, List.any_map]
  rfl

theorem datum_at (fs : Fs) (p : List UInt8) (z : DataW Unit) : (datum fs).atKey (.string p) z = match get fs p with | some b => .lit (.string b) | none => z := by
  unfold datum get DataW.atKey
  simp only
  rw [List.find?_map]
  rw [show ((fun q : Lit × DataW Unit => q.1.sameKey (.string p)) ∘ fun f : List UInt8 × List UInt8 => (Lit.string f.1, DataW.lit (H := Unit) (.string f.2))) = (fun f => f.1 == p) from rfl]
  cases List.find? (fun f => f.1 == p) fs <;> rfl

theorem datum_size (fs : Fs) : Maps.size (datum fs) = fs.length := by simp [datum, size_eq]

theorem datum_keys (fs : Fs) : strKeys (datum fs) = fs.map (·.1) := by simp [datum, strKeys, strOf]

theorem before_lt : ∀ (x y : List UInt8), bytesBefore x y = true ↔ x < y
  | [], [] => by simp [bytesBefore]
  | [], _ :: _ => by simp [bytesBefore]
  | _ :: _, [] => by simp [bytesBefore]
  | a :: r, b :: s => by
    rw [List.cons_lt_cons_iff, ← before_lt r s]
    simp [bytesBefore]

theorem less_before : ∀ (x y : List UInt8), Op.bytesLess x y = bytesBefore x y
  | [], [] => rfl
  | [], _ :: _ => rfl
  | _ :: _, [] => rfl
  | a :: r, b :: s => by simp [Op.bytesLess, bytesBefore, less_before r s]

theorem Rises.sorted {fs : Fs} (h : Rises fs) : (fs.map (·.1)).mergeSort (fun x y => decide (x ≤ y)) = fs.map (·.1) := by
  refine List.mergeSort_of_pairwise ?_
  rw [List.pairwise_map]
  exact h.imp fun {a b} hab => by
    have := (before_lt a.1 b.1).1 hab
    simpa using List.le_of_lt this

theorem Rises.del {fs : Fs} (h : Rises fs) (p : List UInt8) : Rises (del fs p) := List.Pairwise.filter _ h

theorem mem_ins (x y : List UInt8 × List UInt8) : ∀ fs : Fs, y ∈ ins x fs ↔ y = x ∨ y ∈ fs
  | [] => by simp [ins]
  | f :: r => by
    unfold ins
    split
    · simp
    · simp only [List.mem_cons, mem_ins x y r]
      constructor
      · rintro (h | h | h) <;> simp [h]
      · rintro (h | h | h) <;> simp [h]

theorem Rises.ins {fs : Fs} (h : Rises fs) {x : List UInt8 × List UInt8} (hx : ∀ f ∈ fs, f.1 ≠ x.1) : Rises (ins x fs) := by
  induction fs with
  | nil => simp [Tf.ins, Rises]
  | cons f r ih =>
    unfold Tf.ins
    have h' := List.pairwise_cons.1 h
    split
    · rename_i hb
      refine List.pairwise_cons.2 ⟨fun g hg => ?_, h⟩
      rcases List.mem_cons.1 hg with rfl | hg
      · exact hb
      · exact WideShapes.bytes_trans _ _ _ hb (h'.1 g hg)
    · rename_i hb
      refine List.pairwise_cons.2 ⟨fun g hg => ?_, ih h'.2 fun g hg => hx g (List.mem_cons_of_mem _ hg)⟩
      rcases (mem_ins x g r).1 hg with rfl | hg
      · rcases WideAt.bytes_total f.1 g.1 (hx f (by simp)) with h1 | h1
        · exact h1
        · exact absurd h1 hb
      · exact h'.1 g hg

theorem mem_del {fs : Fs} {p : List UInt8} {f : List UInt8 × List UInt8} : f ∈ del fs p ↔ f ∈ fs ∧ f.1 ≠ p := by simp [del]

theorem Rises.put {fs : Fs} (h : Rises fs) (p b : List UInt8) : Rises (put fs p b) := (h.del p).ins fun _ hf => (mem_del.1 hf).2

theorem mem_put {fs : Fs} {p b : List UInt8} {f : List UInt8 × List UInt8} : f ∈ put fs p b ↔ f = (p, b) ∨ (f ∈ fs ∧ f.1 ≠ p) := by
  unfold put
  rw [mem_ins, mem_del]

theorem length_ins (x : List UInt8 × List UInt8) : ∀ fs : Fs, (ins x fs).length = fs.length + 1
  | [] => rfl
  | f :: r => by
    unfold ins
    split
    · rfl
    · simp [length_ins x r]

theorem del_none {fs : Fs} {p : List UInt8} (h : hasP fs p = false) : del fs p = fs := by
  unfold del hasP at *
  rw [List.filter_eq_self]
  intro f hf
  have := List.any_eq_false.1 h f hf
  simpa using this

theorem length_del_le (fs : Fs) (p : List UInt8) : (del fs p).length ≤ fs.length := List.length_filter_le _ _

theorem length_del_lt {fs : Fs} {p : List UInt8} (h : hasP fs p = true) : (del fs p).length < fs.length := by
  unfold del hasP at *
  obtain ⟨f, hf, hp⟩ := List.any_eq_true.1 h
  rcases Nat.lt_or_ge (fs.filter fun f => !(f.1 == p)).length fs.length with h1 | h1
  · exact h1
  · have e := List.filter_eq_self.1 (List.Sublist.eq_of_length_le (List.filter_sublist) h1) f hf
    simp [hp] at e

/-- Is a path above another one? -/
def above (a b : List UInt8) : Bool := Lib.hasPrefix b (a ++ [47])
def clash (fs : Fs) (p : List UInt8) : Bool := fs.any fun f => above f.1 p || above p f.1

/-- The error of Put (0: none); ok: is it a path? -/
def putCode (ok : List UInt8 → Bool) (fs : Fs) (p b : List UInt8) : Nat :=
  if ok p = false then 4 else if 2000 < b.length then 2 else if hasP fs p then 0 else if clash fs p then 7 else if 60 ≤ fs.length then 8 else 0
def putF (ok : List UInt8 → Bool) (fs : Fs) (p b : List UInt8) : Fs := if putCode ok fs p b = 0 then put fs p b else fs

/-- What a tree's files keep. -/
structure Well (ok : List UInt8 → Bool) (fs : Fs) : Prop where
  rises : Rises fs
  few : fs.length ≤ 60
  each : ∀ f ∈ fs, ok f.1 = true ∧ f.2.length ≤ 2000
  apart : ∀ f ∈ fs, ∀ g ∈ fs, above f.1 g.1 = false

theorem above_self (p : List UInt8) : above p p = false := by
  unfold above Lib.hasPrefix
  cases h : (p ++ [47]).isPrefixOf p with
  | false => rfl
  | true =>
    have := (List.isPrefixOf_iff_prefix.1 h).length_le
    simp at this
    omega

theorem Well.nil (ok : List UInt8 → Bool) : Well ok [] := ⟨List.Pairwise.nil, by simp, by simp, by simp⟩

theorem Well.del {ok : List UInt8 → Bool} {fs : Fs} (h : Well ok fs) (p : List UInt8) : Well ok (del fs p) :=
  ⟨h.rises.del p, Nat.le_trans (length_del_le _ _) h.few, fun f hf => h.each f (mem_del.1 hf).1, fun f hf g hg => h.apart f (mem_del.1 hf).1 g (mem_del.1 hg).1⟩

theorem Well.put {ok : List UInt8 → Bool} {fs : Fs} (h : Well ok fs) {p b : List UInt8} (hc : putCode ok fs p b = 0) : Well ok (put fs p b) := by
  unfold putCode at hc
  split at hc
  · cases hc
  rename_i hok
  split at hc
  · cases hc
  rename_i hb
  have hok' : ok p = true := by simpa using hok
  refine ⟨h.rises.put p b, ?_, ?_, ?_⟩
  · unfold Tf.put
    rw [length_ins]
    have := h.few
    split at hc
    · rename_i hh
      have := length_del_lt hh
      omega
    · rename_i hh
      have hh' : hasP fs p = false := by simpa using hh
      rw [del_none hh']
      split at hc
      · cases hc
      split at hc
      · cases hc
      · omega
  · intro f hf
    rcases mem_put.1 hf with rfl | ⟨hf, _⟩
    · exact ⟨hok', by simpa using hb⟩
    · exact h.each f hf
  · have key : ∀ f ∈ fs, f.1 ≠ p → above f.1 p = false ∧ above p f.1 = false := by
      intro f hf hne
      split at hc
      · rename_i hh
        obtain ⟨g, hg, hgp⟩ := List.any_eq_true.1 hh
        obtain rfl : g.1 = p := by simpa using hgp
        exact ⟨h.apart f hf g hg, h.apart g hg f hf⟩
      · split at hc
        · cases hc
        · rename_i hcl
          have hcl' : clash fs p = false := by simpa using hcl
          have := List.any_eq_false.1 hcl' f hf
          simpa using this
    intro f hf g hg
    rcases mem_put.1 hf with rfl | ⟨hf, hfp⟩ <;> rcases mem_put.1 hg with rfl | ⟨hg, hgp⟩
    · exact above_self p
    · exact (key g hg hgp).2
    · exact (key f hf hfp).1
    · exact h.apart f hf g hg

theorem Well.putF {ok : List UInt8 → Bool} {fs : Fs} (h : Well ok fs) (p b : List UInt8) : Well ok (putF ok fs p b) := by
  unfold Tf.putF
  split
  · rename_i hc; exact h.put hc
  · exact h

/-! ### Put in rising order -/
theorem put_last {fs : Fs} {p b : List UInt8} (h : ∀ f ∈ fs, bytesBefore f.1 p = true) : put fs p b = fs ++ [(p, b)] := by
  have hne : hasP fs p = false := by
    unfold hasP
    rw [List.any_eq_false]
    intro f hf
    have h1 := h f hf
    intro h2
    obtain rfl : f.1 = p := by simpa using h2
    rw [WideAt.bytes_irrefl] at h1
    cases h1
  unfold put
  rw [del_none hne]
  clear hne
  induction fs with
  | nil => rfl
  | cons f r ih =>
    unfold ins
    have h1 := h f (by simp)
    have h2 : bytesBefore p f.1 = false := by
      cases hb : bytesBefore p f.1 with
      | false => rfl
      | true =>
        have := WideShapes.bytes_trans _ _ _ h1 hb
        rw [WideAt.bytes_irrefl] at this
        cases this
    simp only [h2, Bool.false_eq_true, if_false]
    rw [ih fun g hg => h g (List.mem_cons_of_mem _ hg)]
    rfl

def puts (es : Fs) : Fs := es.foldl (fun t e => put t e.1 e.2) []

theorem puts_snoc (es : Fs) (e : List UInt8 × List UInt8) : puts (es ++ [e]) = put (puts es) e.1 e.2 := by simp [puts]

theorem Rises.take {fs : Fs} (h : Rises fs) (k : Nat) : Rises (fs.take k) := h.sublist (List.take_sublist _ _)

theorem Rises.before_at {fs : Fs} (h : Rises fs) {k : Nat} (hk : k < fs.length) : ∀ f ∈ fs.take k, bytesBefore f.1 fs[k].1 = true := by
  intro f hf
  obtain ⟨j, hj, rfl⟩ := List.mem_iff_getElem.1 hf
  rw [List.length_take] at hj
  rw [List.getElem_take]
  exact List.pairwise_iff_getElem.1 h j k (by omega) hk (by omega)

theorem puts_take {fs : Fs} (h : Rises fs) : ∀ k, k ≤ fs.length → puts (fs.take k) = fs.take k
  | 0, _ => by simp [puts]
  | k + 1, hk => by
    rw [List.take_succ_eq_append_getElem (by omega), puts_snoc, puts_take h k (by omega), put_last (h.before_at (by omega))]

theorem puts_self {fs : Fs} (h : Rises fs) : puts fs = fs := by
  have := puts_take h fs.length (Nat.le_refl _)
  simpa using this

theorem hasP_take {fs : Fs} (h : Rises fs) {k : Nat} (hk : k < fs.length) : hasP (fs.take k) fs[k].1 = false := by
  unfold hasP
  rw [List.any_eq_false]
  intro f hf h2
  have h1 := h.before_at hk f hf
  rw [show f.1 = fs[k].1 by simpa using h2, WideAt.bytes_irrefl] at h1
  cases h1

theorem Well.code_take {ok : List UInt8 → Bool} {fs : Fs} (h : Well ok fs) {k : Nat} (hk : k < fs.length) : putCode ok (puts (fs.take k)) fs[k].1 fs[k].2 = 0 := by
  rw [puts_take h.rises k (by omega)]
  have hm : fs[k] ∈ fs := List.getElem_mem hk
  obtain ⟨h1, h2⟩ := h.each _ hm
  have h3 := h.few
  unfold putCode
  rw [if_neg (by simp [h1]), if_neg (by omega), if_neg (by simp [hasP_take h.rises hk]), if_neg, if_neg (by simp; omega)]
  unfold clash
  rw [List.any_eq_true]
  rintro ⟨f, hf, hx⟩
  have hf' := List.mem_of_mem_take hf
  rw [h.apart f hf' _ hm, h.apart _ hm f hf'] at hx
  simp at hx

/-! ### The text -/
def entryT (f : List UInt8 × List UInt8) : List UInt8 := f.1 ++ 32 :: (Lib.decDigits f.2.length ++ 10 :: (f.2 ++ [10]))
def textT (fs : Fs) : List UInt8 := fs.flatMap entryT

/-- A number that is written just so: at most four digits. -/
def numT (d : List UInt8) : Option Nat :=
  if 4 < d.length then none else match Lib.atoi d with
    | some n => if 0 ≤ n ∧ Lib.itoa n = d then some n.toNat else none
    | none => none

/-- The first entry of a text, and what is behind it. -/
def readE (s : List UInt8) : Option ((List UInt8 × List UInt8) × List UInt8) :=
  if (Lib.cut s [10]).2.2 = false then none
  else if (Lib.cut (Lib.cut s [10]).1 [32]).2.2 = false then none
  else match numT (Lib.cut (Lib.cut s [10]).1 [32]).2.1 with
    | none => none
    | some n =>
      if (Lib.cut s [10]).2.1.length < n then none
      else if Lib.hasPrefix ((Lib.cut s [10]).2.1.drop n) [10] = false then none
      else some (((Lib.cut (Lib.cut s [10]).1 [32]).1, (Lib.cut s [10]).2.1.take n), (Lib.cut s [10]).2.1.drop (n + 1))

inductive Parse : List UInt8 → Fs → Prop
  | nil : Parse [] []
  | cons {s r : List UInt8} {e : List UInt8 × List UInt8} {es : Fs} : s ≠ [] → readE s = some (e, r) → Parse r es → Parse s (e :: es)
end Go.Proofs.YtmeplgihnlpjcaaGreatDoor.Tf
/- A tree's text is read as its files. -/
namespace Go.Proofs.YtmeplgihnlpjcaaGreatDoor
open Go.Lib
open Tf (Fs)

theorem index_at (a t : List UInt8) (c : UInt8) (h : c ∉ a) : Lib.index (a ++ c :: t) [c] = (a.length : Int) := by
  refine Lib.index_first (by simp) ?_ ?_
  · simp [Lib.occAt]
  · intro j hj
    simp only [Lib.occAt]
    have h2 : (a ++ c :: t).drop j = a[j] :: (a.drop (j + 1) ++ c :: t) := by
      rw [List.drop_append_of_le_length (by omega), List.drop_eq_getElem_cons hj]
      rfl
    rw [h2]
    have : (c == a[j]) = false := by simp; exact fun e => h (e ▸ List.getElem_mem hj)
    show (c == a[j] && _) = false
    rw [this]
    rfl

theorem cut_at (a t : List UInt8) (c : UInt8) (h : c ∉ a) : Lib.cut (a ++ c :: t) [c] = (a, t, true) := by
  unfold Lib.cut
  rw [index_at a t c h]
  simp

theorem digits_bytes : ∀ (n : Nat), ∀ b ∈ Lib.decDigits n, 48 ≤ b.toNat ∧ b.toNat ≤ 57
  | n => by
    intro b hb
    rw [Lib.decDigits] at hb
    have key : ∀ d, d < 10 → (UInt8.ofNat (48 + d)).toNat = 48 + d := fun d hd => by simp; omega
    split at hb
    · rename_i h
      obtain rfl : b = UInt8.ofNat (48 + n) := by simpa using hb
      rw [key n h]; omega
    · rename_i h
      rcases List.mem_append.1 hb with hb | hb
      · exact digits_bytes (n / 10) b hb
      · obtain rfl : b = UInt8.ofNat (48 + n % 10) := by simpa using hb
        rw [key _ (Nat.mod_lt _ (by omega))]; omega
  termination_by n => n
  decreasing_by omega

theorem decFrom_append : ∀ (l r : List UInt8) (acc n : Nat), Lib.decFrom acc l = some n → Lib.decFrom acc (l ++ r) = Lib.decFrom n r
  | [], r, acc, n, h => by
    simp [Lib.decFrom] at h
    subst h
    rfl
  | b :: l, r, acc, n, h => by
    simp only [Lib.decFrom, List.cons_append] at h ⊢
    cases hd : Lib.digitVal b with
    | none => rw [hd] at h; cases h
    | some d =>
      rw [hd] at h
      simp only at h ⊢
      exact decFrom_append l r _ n h

theorem decFrom_one (acc d : Nat) (b : UInt8) (h : Lib.digitVal b = some d) : Lib.decFrom acc [b] = some (acc * 10 + d) := by
  unfold Lib.decFrom
  rw [h]
  rfl

theorem decFrom_digits : ∀ (n : Nat), Lib.decFrom 0 (Lib.decDigits n) = some n
  | n => by
    have key : ∀ d, d < 10 → Lib.digitVal (UInt8.ofNat (48 + d)) = some d := fun d hd => by
      have e : (UInt8.ofNat (48 + d)).toNat = 48 + d := by simp; omega
      unfold Lib.digitVal
      rw [e, if_pos (by omega)]
      congr 1
      omega
    rw [Lib.decDigits]
    split
    · rename_i h
      rw [decFrom_one 0 _ _ (key _ h)]
      exact congrArg some (by omega)
    · rename_i h
      rw [decFrom_append _ _ _ _ (decFrom_digits (n / 10))]
      rw [decFrom_one _ _ _ (key _ (Nat.mod_lt n (by omega)))]
      congr 1
      omega
  termination_by n => n
  decreasing_by omega

theorem digits_ne (n : Nat) : Lib.decDigits n ≠ [] := by
  rw [Lib.decDigits]
  split <;> simp

theorem atoi_digits (n : Nat) : Lib.atoi (Lib.decDigits n) = some (n : Int) := by
  have h1 := decFrom_digits n
  have h2 := digits_bytes n
  have h3 := digits_ne n
  cases hl : Lib.decDigits n with
  | nil => exact absurd hl h3
  | cons b r =>
    rw [hl] at h1 h2
    have hb := h2 b (by simp)
    have n1 : (b == 45) = false := by simp; intro e; subst e; simp at hb
    have n2 : (b == 43) = false := by simp; intro e; subst e; simp at hb
    unfold Lib.atoi
    simp [n1, n2, Lib.decNat, h1]

theorem digits_four (n : Nat) (h : n ≤ 9999) : (Lib.decDigits n).length ≤ 4 := by
  rw [Lib.decDigits]
  split
  · simp
  rw [Lib.decDigits]
  split
  · simp
  rw [Lib.decDigits]
  split
  · simp
  rw [Lib.decDigits]
  split
  · simp
  · omega

theorem numT_digits (n : Nat) (h : n ≤ 9999) : Tf.numT (Lib.decDigits n) = some n := by
  unfold Tf.numT
  rw [if_neg (by have := digits_four n h; omega), atoi_digits]
  simp [Lib.itoa_nonneg]

theorem readE_entry (f : List UInt8 × List UInt8) (rest : List UInt8) (hp : ∀ b ∈ f.1, b ≠ 32 ∧ b ≠ 10) (hb : f.2.length ≤ 2000) : Tf.readE (Tf.entryT f ++ rest) = some (f, rest) := by
  have e1 : Tf.entryT f ++ rest = (f.1 ++ 32 :: Lib.decDigits f.2.length) ++ 10 :: (f.2 ++ 10 :: rest) := by simp [Tf.entryT]
  have hd := digits_bytes f.2.length
  have c1 : Lib.cut (Tf.entryT f ++ rest) [10] = (f.1 ++ 32 :: Lib.decDigits f.2.length, f.2 ++ 10 :: rest, true) := by
    rw [e1]
    refine cut_at _ _ _ ?_
    intro h
    rcases List.mem_append.1 h with h | h
    · exact (hp _ h).2 rfl
    · rcases List.mem_cons.1 h with h | h
      · cases h
      · have := hd _ h; simp at this
  have c2 : Lib.cut (f.1 ++ 32 :: Lib.decDigits f.2.length) [32] = (f.1, Lib.decDigits f.2.length, true) := cut_at _ _ _ fun h => (hp _ h).1 rfl
  unfold Tf.readE
  rw [c1, c2, numT_digits _ (by omega)]
  simp [Lib.hasPrefix]

theorem parse_text {fs : Fs} (h : ∀ f ∈ fs, pathB f.1 = true ∧ f.2.length ≤ 2000) : Tf.Parse (Tf.textT fs) fs := by
  induction fs with
  | nil => exact Tf.Parse.nil
  | cons f r ih =>
    obtain ⟨h1, h2⟩ := h f (by simp)
    have e : Tf.textT (f :: r) = Tf.entryT f ++ Tf.textT r := by simp [Tf.textT]
    rw [e]
    exact Tf.Parse.cons (by simp [Tf.entryT]) (readE_entry f _ (path_bytes h1) h2) (ih fun g hg => h g (List.mem_cons_of_mem _ hg))
end Go.Proofs.YtmeplgihnlpjcaaGreatDoor
/- The walk of package number's Read: a number that is written as it would be. -/
namespace Go.Proofs.YtmeplgihnlpjcaaGreatDoor
open Go.RowKit Go.Shelf Go.Lib Go.Maps

/-- The cell of strconv.ErrSyntax. -/
def SynAt (w : World) : Prop := ∃ ev, w.cell? ⟨17, 0, none⟩ = some ev ∧ (ev = .nilIface ∨ ∃ te pe, ev = .iface te pe)

theorem SynAt.below {w w' : World} (h : SynAt w) (hb : Below w.heap.size w w') : SynAt w' := by
  obtain ⟨ev, h1, h2⟩ := h
  exact ⟨ev, cell_below' h1 hb, h2⟩

/-- A number of at most k digits. -/
def numM (k : Nat) (d : List UInt8) : Option Nat :=
  if k < d.length then none else match Lib.atoi d with
    | some n => if 0 ≤ n ∧ Lib.itoa n = d then some n.toNat else none
    | none => none
theorem numT_numM (d : List UInt8) : Tf.numT d = numM 4 d := rfl

theorem numM_some {k : Nat} {d : List UInt8} {n : Nat} (h : numM k d = some n) : d.length ≤ k ∧ Lib.atoi d = some (n : Int) ∧ Lib.decDigits n = d := by
  unfold numM at h
  split at h
  · cases h
  rename_i h4
  split at h
  · rename_i z hz
    split at h
    · rename_i hc
      obtain ⟨h0, h1⟩ := hc
      have e : z = (n : Int) := by
        have := Option.some.inj h
        omega
      subst e
      rw [Lib.itoa_nonneg] at h1
      exact ⟨by omega, hz, h1⟩
    · cases h
  · cases h

theorem atoi_small {d : List UInt8} {z : Int} (h : Lib.atoi d = some z) (h4 : d.length ≤ 4) : -100000 ≤ z ∧ z ≤ 100000 := by
  obtain ⟨b0, r, rfl, hc⟩ := Lib.atoi_cases h
  have key : ∀ (l : List UInt8) (m : Nat), l.length ≤ 4 → Lib.decFrom 0 l = some m → m < 100000 := fun l m hl hm => by
    have h1 := Lib.decFrom_lt l 0 m hm
    have h2 : 10 ^ l.length ≤ 10 ^ 4 := Nat.pow_le_pow_right (by omega) hl
    omega
  have hr : r.length ≤ 4 := by simp at h4; omega
  rcases hc with ⟨_, m, _, hm, rfl⟩ | ⟨_, m, _, hm, rfl⟩ | ⟨_, _, m, hm, rfl⟩
  · have := key _ m hr hm; omega
  · have := key _ m hr hm; omega
  · have := key _ m h4 hm; omega

set_option maxRecDepth 100000 in
theorem nRead_yes (k : Nat) (hk : k ≤ 4) (d : List UInt8) (n : Nat) (h : numM k d = some n) (hn : n ≤ 1000000) (w : World) (hP : Pow w) :
    Calls Tryz.prog 169 #[.string (ba d), .int .i64 k] w fun e w' => e = .returned (.tuple #[.int .i64 n, .bool true]) ∧ Below w.heap.size w w' := by
  obtain ⟨h4, ha, hd⟩ := numM_some h
  have HA : Hid (Calls Tryz.prog 179 #[.string (ba d)] w fun e w' => e = .returned (.tuple #[.int .i64 n, .nilIface]) ∧ Below w.heap.size w w') :=
    (Tryz.strconv_Atoi (ba d) (n : Int) (by rw [ba_size]; omega) ha w).mono fun e w' ⟨h1, t, h2⟩ => ⟨h1, h2 ▸ Go.Joins.below_bytesWorld _ w 5 t (Nat.le_refl _)⟩
  have HI : Hid (∀ W, Below w.heap.size w W → Calls Tryz.prog 167 #[.int .i64 n] W fun e w' => e = .returned (.string (ba d)) ∧ Below W.heap.size W w') := fun W hW => by
    refine (Tryz.strconv_Itoa (n : Int) (by omega) (by omega) W (pow_below hP hW)).mono ?_
    rintro e w' ⟨rfl, k, os, rfl⟩
    rw [Lib.itoa_nonneg, hd]
    exact ⟨rfl, below_grow W k os⟩
  have z4 : (d.length : Int) ≤ (k : Int) := by omega
  have z0 : (0 : Int) ≤ (n : Int) := by omega
  clear h ha hd h4 hP
  go_enter Tryz.func169, Tryz.ntmps169
  go_wp2_with fail
  refine HA.out.mono ?_
  rintro e w1 ⟨rfl, g1⟩
  go_wp2_with fail
  refine (HI.out w1 g1).mono ?_
  rintro e w2 ⟨rfl, g2⟩
  go_wp2
  go_ret2
  exact ⟨by first | rfl | simp, g1.trans (g2.mono g1.size)⟩

set_option maxRecDepth 100000 in
theorem nRead_no (k : Nat) (hk : k ≤ 4) (d : List UInt8) (h : numM k d = none) (hd : d.length ≤ 1000000) (w : World) (hP : Pow w) (hS : SynAt w) :
    Calls Tryz.prog 169 #[.string (ba d), .int .i64 k] w fun e w' => e = .returned (.tuple #[.int .i64 0, .bool false]) ∧ Below w.heap.size w w' := by
  by_cases h4 : k < d.length
  · have z4 : (k : Int) < (d.length : Int) := by omega
    have zd : (d.length : Int) ≤ 1000000 := by omega
    clear h hP hS
    go_enter Tryz.func169, Tryz.ntmps169
    go_wp2
    go_ret2
    exact ⟨rfl, Below.refl _ _⟩
  have z4 : (d.length : Int) ≤ (k : Int) := by omega
  cases ha : Lib.atoi d with
  | none =>
    obtain ⟨ev, hv, hev⟩ := hS
    have HA : Hid (Calls Tryz.prog 179 #[.string (ba d)] w fun e w' => (∃ t v, e = .returned (.tuple #[.int .i64 0, .iface t v])) ∧ Below w.heap.size w w') :=
      (Tryz.strconv_Atoi_err (ba d) (by rw [ba_size]; omega) ha ev w hv hev).mono fun e w' ⟨N, h1, _, _, h2⟩ => ⟨⟨_, _, h1⟩, h2⟩
    clear h hP ha hv hev h4
    go_enter Tryz.func169, Tryz.ntmps169
    go_wp2_with fail
    refine HA.out.mono ?_
    rintro e w1 ⟨⟨t, v, rfl⟩, g1⟩
    go_wp2
    go_ret2
    exact ⟨rfl, g1⟩
  | some z =>
    obtain ⟨hz0, hz1⟩ := atoi_small ha (by omega)
    have HA : Hid (Calls Tryz.prog 179 #[.string (ba d)] w fun e w' => e = .returned (.tuple #[.int .i64 z, .nilIface]) ∧ Below w.heap.size w w') :=
      (Tryz.strconv_Atoi (ba d) z (by rw [ba_size]; omega) ha w).mono fun e w' ⟨h1, t, h2⟩ => ⟨h1, h2 ▸ Go.Joins.below_bytesWorld _ w 5 t (Nat.le_refl _)⟩
    by_cases hz : 0 ≤ z
    · have hne : (Lib.itoa z == d) = false := by
        unfold numM at h
        rw [if_neg h4, ha] at h
        simp only at h
        split at h
        · cases h
        · rename_i hc
          simp
          exact fun e => hc ⟨hz, e⟩
      have HI : Hid (∀ W, Below w.heap.size w W → Calls Tryz.prog 167 #[.int .i64 z] W fun e w' => e = .returned (.string (ba (Lib.itoa z))) ∧ Below W.heap.size W w') := fun W hW => by
        refine (Tryz.strconv_Itoa z (by omega) (by omega) W (pow_below hP hW)).mono ?_
        rintro e w' ⟨rfl, k, os, rfl⟩
        exact ⟨rfl, below_grow W k os⟩
      generalize Lib.itoa z = y at *
      clear h ha h4 hP hS
      go_enter Tryz.func169, Tryz.ntmps169
      go_wp2_with fail
      refine HA.out.mono ?_
      rintro e w1 ⟨rfl, g1⟩
      go_wp2_with fail
      refine (HI.out w1 g1).mono ?_
      rintro e w2 ⟨rfl, g2⟩
      go_wp2
      go_ret2
      exact ⟨rfl, g1.trans (g2.mono g1.size)⟩
    · have hz' : z < 0 := by omega
      clear h ha h4 hP hS hz
      go_enter Tryz.func169, Tryz.ntmps169
      go_wp2_with fail
      refine HA.out.mono ?_
      rintro e w1 ⟨rfl, g1⟩
      go_wp2
      go_ret2
      exact ⟨rfl, g1⟩
end Go.Proofs.YtmeplgihnlpjcaaGreatDoor
