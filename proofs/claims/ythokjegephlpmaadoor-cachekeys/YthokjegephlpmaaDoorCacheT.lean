/- A cache, as data: what it keeps, the one that was asked for longest ago first. -/
import Derived.Test.YthokjegephlpmaaDoorSpec
namespace Go.Proofs.YthokjegephlpmaaDoor

namespace Cf
abbrev En : Type := List UInt8 × List UInt8
abbrev Ens : Type := List En
def keys (l : Ens) : List (List UInt8) := l.map (·.1)
/-- All but those of a key. -/
def rm (l : Ens) (k : List UInt8) : Ens := l.filter fun e => !(e.1 == k)
def cut (many : Nat) (l : Ens) : Ens := if many < l.length then l.drop 1 else l
def put (many : Nat) (l : Ens) (k b : List UInt8) : Ens := cut many (rm l k ++ [(k, b)])
def find (l : Ens) (k : List UInt8) : Option (List UInt8) := (l.find? fun e => e.1 == k).map (·.2)
def get (many : Nat) (l : Ens) (k : List UInt8) : Ens := match find l k with | some b => put many l k b | none => l
theorem mem_rm {l : Ens} {k : List UInt8} {e : En} : e ∈ rm l k ↔ e ∈ l ∧ e.1 ≠ k := by simp [rm]
theorem rm_le (l : Ens) (k : List UInt8) : (rm l k).length ≤ l.length := List.length_filter_le _ _
theorem rm_sub (l : Ens) (k : List UInt8) : (rm l k).Sublist l := List.filter_sublist
theorem rm_append (a b : Ens) (k : List UInt8) : rm (a ++ b) k = rm a k ++ rm b k := List.filter_append _ _
theorem rm_none {l : Ens} {k : List UInt8} (h : k ∉ keys l) : rm l k = l := by
  unfold rm
  rw [List.filter_eq_self]
  intro e he
  have : e.1 ≠ k := fun x => h (List.mem_map.2 ⟨e, he, x⟩)
  simpa using this
theorem rm_ge {l : Ens} (h : (keys l).Nodup) (k : List UInt8) : l.length ≤ (rm l k).length + 1 := by
  induction l with
  | nil => simp
  | cons x t ih =>
    obtain ⟨h1, h2⟩ := List.nodup_cons.1 h
    by_cases e : x.1 = k
    · have : rm (x :: t) k = rm t k := by unfold rm; rw [List.filter_cons_of_neg (by simp [e])]
      rw [this, rm_none (e ▸ h1)]
      simp
    · have : rm (x :: t) k = x :: rm t k := by unfold rm; rw [List.filter_cons_of_pos (by simp [e])]
      rw [this]
      have := ih h2
      simp
      omega
theorem keys_sub {a b : Ens} (h : a.Sublist b) : (keys a).Sublist (keys b) := h.map _
theorem rm_once {l : Ens} (h : (keys l).Nodup) (k : List UInt8) : (keys (rm l k)).Nodup := (keys_sub (rm_sub l k)).nodup h
theorem rm_key (l : Ens) (k : List UInt8) : k ∉ keys (rm l k) := by
  intro h
  obtain ⟨e, he, hk⟩ := List.mem_map.1 h
  exact (mem_rm.1 he).2 hk

/-- What a cache is at any time. -/
structure Ok (many : Nat) (l : Ens) : Prop where
  few : l.length ≤ many
  once : (keys l).Nodup
theorem Ok.nil (many : Nat) : Ok many [] := ⟨Nat.zero_le _, List.nodup_nil⟩
theorem put_once {l : Ens} (h : (keys l).Nodup) (k b : List UInt8) : (keys (rm l k ++ [(k, b)])).Nodup := by
  unfold keys
  rw [List.map_append, List.nodup_append]
  refine ⟨rm_once h k, by simp, fun x hx y hy => ?_⟩
  simp at hy
  subst hy
  rintro rfl
  exact rm_key l x hx
theorem Ok.put {many : Nat} {l : Ens} (h : Ok many l) (k b : List UInt8) : Ok many (Cf.put many l k b) := by
  have hl : (rm l k ++ [(k, b)]).length ≤ many + 1 := by
    rw [List.length_append, List.length_singleton]
    have := rm_le l k
    have := h.few
    omega
  have ho := put_once h.once k b
  unfold Cf.put cut
  split
  · refine ⟨by rw [List.length_drop]; omega, (keys_sub (List.drop_sublist 1 _)).nodup ho⟩
  · exact ⟨by omega, ho⟩
theorem Ok.get {many : Nat} {l : Ens} (h : Ok many l) (k : List UInt8) : Ok many (Cf.get many l k) := by
  unfold Cf.get
  split
  · exact h.put _ _
  · exact h
theorem find_some {l : Ens} {k b : List UInt8} (h : find l k = some b) : (k, b) ∈ l := by
  unfold find at h
  cases hf : l.find? fun e => e.1 == k with
  | none => rw [hf] at h; cases h
  | some e =>
    rw [hf] at h
    have h1 := List.find?_some hf
    have h2 := List.mem_of_find?_eq_some hf
    have e1 : e.1 = k := by simpa using h1
    have e2 : e.2 = b := by simpa using h
    rw [← e1, ← e2]
    exact h2
theorem find_none {l : Ens} {k : List UInt8} (h : find l k = none) : k ∉ keys l := by
  unfold find at h
  intro hk
  obtain ⟨e, he, e1⟩ := List.mem_map.1 hk
  have h0 : (l.find? fun e => e.1 == k) = none := by
    cases hf : l.find? fun e => e.1 == k with
    | none => rfl
    | some x => rw [hf] at h; cases h
  have := List.find?_eq_none.1 h0 e he
  simp at this
  exact this e1
theorem find_mem {l : Ens} (ho : (keys l).Nodup) {k b : List UInt8} (h : (k, b) ∈ l) : find l k = some b := by
  cases hf : find l k with
  | none => exact absurd (List.mem_map.2 ⟨_, h, rfl⟩) (find_none hf)
  | some c =>
    have h2 := find_some hf
    obtain ⟨i, hi, ei⟩ := List.getElem_of_mem h
    obtain ⟨j, hj, ej⟩ := List.getElem_of_mem h2
    have hp := List.pairwise_iff_getElem.1 ho
    have hki : ∀ m (hm : m < l.length), (keys l)[m]'(by simpa [keys] using hm) = l[m].1 := fun m hm => by simp [keys]
    rcases Nat.lt_trichotomy i j with h3 | h3 | h3
    · exact absurd (by rw [hki i hi, hki j hj, ei, ej]) (hp i j (by simpa [keys] using hi) (by simpa [keys] using hj) h3)
    · subst h3
      rw [ei] at ej
      rw [(Prod.mk.inj ej).2]
    · exact absurd (by rw [hki i hi, hki j hj, ei, ej]) (hp j i (by simpa [keys] using hj) (by simpa [keys] using hi) h3)
/-- What is asked for and there is laid last: nothing goes. -/
theorem get_hit {many : Nat} {l : Ens} (h : Ok many l) {k b : List UInt8} (hf : find l k = some b) : Cf.get many l k = rm l k ++ [(k, b)] ∧ (Cf.get many l k).Perm l := by
  have hm := find_some hf
  have hl : (rm l k ++ [(k, b)]).Perm l := by
    refine (List.perm_ext_iff_of_nodup ?_ ?_).2 fun e => ?_
    · have := put_once h.once k b
      exact List.Pairwise.of_map (S := fun a b => a ≠ b) (f := fun e : En => e.1) (fun a b hab e => hab (by rw [e])) this
    · exact List.Pairwise.of_map (S := fun a b => a ≠ b) (f := fun e : En => e.1) (fun a b hab e => hab (by rw [e])) h.once
    · rw [List.mem_append, List.mem_singleton, mem_rm]
      constructor
      · rintro (h1 | rfl)
        · exact h1.1
        · exact hm
      · intro he
        by_cases e1 : e.1 = k
        · right
          have h1 : find l k = some e.2 := find_mem h.once (by rw [← e1]; exact he)
          rw [hf] at h1
          rw [Option.some.inj h1, ← e1]
        · exact .inl ⟨he, e1⟩
  have hlen := hl.length_eq
  have hg : Cf.get many l k = rm l k ++ [(k, b)] := by
    unfold Cf.get Cf.put cut
    rw [hf]
    simp only
    rw [if_neg (by rw [hlen]; have := h.few; omega)]
  exact ⟨hg, hg ▸ hl⟩

/-- Of acts, the last one first: each key once, with its last bytes. -/
def recR : Ens → Ens
  | [] => []
  | x :: t => x :: rm (recR t) x.1
theorem recR_once : ∀ A : Ens, (keys (recR A)).Nodup
  | [] => List.nodup_nil
  | x :: t => by
    show (x.1 :: keys (rm (recR t) x.1)).Nodup
    rw [List.nodup_cons]
    exact ⟨rm_key _ _, rm_once (recR_once t) _⟩
theorem rm_twice (l : Ens) (k : List UInt8) : rm (rm l k) k = rm l k := rm_none (rm_key l k)
/-- The cache that acts leave. -/
def kept (many : Nat) (A : Ens) : Ens := ((recR A.reverse).take many).reverse
theorem kept_nil (many : Nat) : kept many [] = [] := by simp [kept, recR]
theorem take_rm {r : Ens} (h : (keys r).Nodup) (k : List UInt8) (m : Nat) : (rm (r.take m) k).take (m - 1) = (rm r k).take (m - 1) := by
  have e : rm r k = rm (r.take m) k ++ rm (r.drop m) k := by rw [← rm_append, List.take_append_drop]
  have h1 := rm_ge ((keys_sub (List.take_sublist m r)).nodup h) k
  rw [List.length_take] at h1
  by_cases hm : m ≤ r.length
  · rw [e, List.take_append_of_le_length (by omega)]
  · rw [List.drop_eq_nil_of_le (by omega)] at e
    rw [e]
    simp [rm]
theorem put_rev {r : Ens} (h : (keys r).Nodup) {many : Nat} (hm : 1 ≤ many) (k b : List UInt8) : put many ((r.take many).reverse) k b = (((k, b) :: rm r k).take many).reverse := by
  have e1 : rm ((r.take many).reverse) k ++ [(k, b)] = ((k, b) :: rm (r.take many) k).reverse := by
    unfold rm
    rw [List.filter_reverse, List.reverse_cons]
  have hY : ((k, b) :: rm (r.take many) k).length ≤ many + 1 := by
    rw [List.length_cons]
    have := rm_le (r.take many) k
    rw [List.length_take] at this
    omega
  unfold put
  rw [e1]
  obtain ⟨m, rfl⟩ : ∃ m, many = m + 1 := ⟨many - 1, by omega⟩
  have ht := take_rm h k (m + 1)
  simp only [Nat.add_sub_cancel] at ht
  have key : ((k, b) :: rm (r.take (m + 1)) k).take (m + 1) = ((k, b) :: rm r k).take (m + 1) := by
    rw [List.take_succ_cons, List.take_succ_cons, ht]
  rw [← key]
  generalize (k, b) :: rm (r.take (m + 1)) k = Y at *
  unfold cut
  rw [List.length_reverse]
  split
  · rename_i hlt
    rw [List.drop_reverse]
    congr 2
    omega
  · rename_i hlt
    rw [List.take_of_length_le (by omega)]
theorem kept_put {many : Nat} (hm : 1 ≤ many) (A : Ens) (k b : List UInt8) : put many (kept many A) k b = kept many (A ++ [(k, b)]) := by
  unfold kept
  rw [put_rev (recR_once _) hm, List.reverse_append]
  rfl
theorem kept_ok (many : Nat) (A : Ens) : Ok many (kept many A) := by
  refine ⟨?_, ?_⟩
  · unfold kept
    rw [List.length_reverse, List.length_take]
    omega
  · unfold kept keys
    rw [List.map_reverse]
    have := (keys_sub (List.take_sublist many (recR A.reverse))).nodup (recR_once _)
    unfold keys at this
    rw [List.nodup_iff_pairwise_ne, List.pairwise_reverse]
    exact (List.nodup_iff_pairwise_ne.1 this).imp fun h e => h e.symm
/-- Asked for, and then laid anew: as laid alone. -/
theorem kept_twice (many : Nat) (A : Ens) (k b c : List UInt8) : kept many (A ++ [(k, b)] ++ [(k, c)]) = kept many (A ++ [(k, c)]) := by
  unfold kept
  rw [List.reverse_append, List.reverse_append, List.reverse_append]
  simp only [List.reverse_cons, List.reverse_nil, List.nil_append, List.singleton_append, recR]
  have : rm ((k, b) :: rm (recR A.reverse) k) k = rm (recR A.reverse) k := by
    unfold rm
    rw [List.filter_cons_of_neg (by simp)]
    exact rm_twice _ _
  rw [this]
/-- The last act of a key, and how many keys come behind it. -/
theorem recR_at (k b : List UInt8) (E : Ens) : ∀ D : Ens, k ∉ keys D → ∃ P Q, recR (D ++ (k, b) :: E) = P ++ (k, b) :: Q ∧ ∀ x, x ∈ keys P ↔ x ∈ keys D
  | [], _ => ⟨[], rm (recR E) k, rfl, fun x => Iff.rfl⟩
  | d :: D, h => by
    have hd : d.1 ≠ k := fun e => h (by simp [keys, e])
    have hD : k ∉ keys D := fun e => h (List.mem_cons_of_mem _ e)
    obtain ⟨P, Q, e, hm⟩ := recR_at k b E D hD
    refine ⟨d :: rm P d.1, rm Q d.1, ?_, fun x => ?_⟩
    · show d :: rm (recR (D ++ (k, b) :: E)) d.1 = _
      rw [e, rm_append]
      have : rm ((k, b) :: Q) d.1 = (k, b) :: rm Q d.1 := by
        unfold rm
        rw [List.filter_cons_of_pos (by simpa using fun e => hd e.symm)]
      rw [this]
      rfl
    · show x ∈ d.1 :: keys (rm P d.1) ↔ x ∈ d.1 :: keys D
      rw [List.mem_cons, List.mem_cons]
      constructor
      · rintro (h1 | h1)
        · exact .inl h1
        · exact .inr ((hm x).1 ((keys_sub (rm_sub P d.1)).subset h1))
      · rintro (h1 | h1)
        · exact .inl h1
        · by_cases e1 : x = d.1
          · exact .inl e1
          · right
            obtain ⟨y, hy, ey⟩ := List.mem_map.1 ((hm x).2 h1)
            exact List.mem_map.2 ⟨y, mem_rm.2 ⟨hy, by rw [ey]; exact e1⟩, ey⟩
theorem nodup_len {α : Type} [DecidableEq α] : ∀ {a b : List α}, a.Nodup → (∀ x ∈ a, x ∈ b) → a.length ≤ b.length
  | [], _, _, _ => Nat.zero_le _
  | x :: r, b, hd, hs => by
    obtain ⟨hx, hr⟩ := List.nodup_cons.1 hd
    have hxb : x ∈ b := hs x (by simp)
    have := nodup_len (a := r) (b := b.erase x) hr fun y hy => by
      have hne : y ≠ x := fun e => hx (e ▸ hy)
      exact (List.mem_erase_of_ne hne).2 (hs y (List.mem_cons_of_mem _ hy))
    rw [List.length_erase_of_mem hxb] at this
    have hp := List.length_pos_of_mem hxb
    simp
    omega
/-- What was asked for last, as far as there is room, is there. -/
theorem kept_last {many : Nat} {A : Ens} {i : Nat} (hi : i < A.length) {seen : List (List UInt8)} (hs : ∀ x, x ∈ keys (A.drop (i + 1)) → x ∈ seen) (hn : A[i].1 ∉ seen) (hlt : seen.length < many) : A[i] ∈ kept many A := by
  have e : A.reverse = (A.drop (i + 1)).reverse ++ A[i] :: (A.take i).reverse := by
    conv => lhs; rw [← List.take_append_drop i A, List.drop_eq_getElem_cons hi]
    simp
  have hk : A[i].1 ∉ keys ((A.drop (i + 1)).reverse) := fun h => hn (hs _ (by unfold keys at h ⊢; rw [List.map_reverse, List.mem_reverse] at h; exact h))
  obtain ⟨P, Q, e2, hm⟩ := recR_at A[i].1 A[i].2 (A.take i).reverse (A.drop (i + 1)).reverse hk
  have hPo : (keys P).Nodup := by
    have := recR_once A.reverse
    rw [e, show A[i] = (A[i].1, A[i].2) from rfl, e2] at this
    unfold keys at this ⊢
    rw [List.map_append] at this
    exact (List.nodup_append.1 this).1
  have hPl : P.length ≤ seen.length := by
    have := nodup_len (b := seen) hPo fun x hx => hs x (by
      have := (hm x).1 hx
      unfold keys at this ⊢
      rwa [List.map_reverse, List.mem_reverse] at this)
    simpa [keys] using this
  unfold kept
  rw [List.mem_reverse, e, show A[i] = (A[i].1, A[i].2) from rfl, e2]
  refine List.mem_take_iff_getElem.2 ⟨P.length, ?_, ?_⟩
  · rw [List.length_append, List.length_cons]
    omega
  · rw [List.getElem_append_right (Nat.le_refl _)]
    simp
end Cf
end Go.Proofs.YthokjegephlpmaaDoor
