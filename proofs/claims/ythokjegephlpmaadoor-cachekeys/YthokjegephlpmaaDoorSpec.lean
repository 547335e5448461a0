/- Plain functions on bytes that say what package path answers: parts between separators, what is left of them, a clean text. No Go text, no program. -/
import Derived.Lib.Bytealg
import Derived.Lib.Join
namespace Go.Proofs.YthokjegephlpmaaDoor.Kf

/-- The parts of a text between separators. -/
def parts : List UInt8 → List (List UInt8)
  | [] => [[]]
  | c :: r => if c = 47 then [] :: parts r else match parts r with
    | [] => [[c]]
    | p :: ps => (c :: p) :: ps

theorem parts_ne (s : List UInt8) : parts s ≠ [] := by
  cases s with
  | nil => simp [parts]
  | cons c r =>
    unfold parts
    split
    · simp
    · split <;> simp

theorem parts_miss : ∀ (s : List UInt8), Lib.indexByte s 47 = -1 → parts s = [s]
  | [], _ => rfl
  | c :: r, h => by
    unfold Lib.indexByte at h
    by_cases hc : c = 47
    · simp [hc] at h
    · have hb : (c == 47) = false := by simp [hc]
      rw [hb] at h
      by_cases h1 : Lib.indexByte r 47 = -1
      · have := parts_miss r h1
        simp [parts, hc, this]
      · have hge := Lib.indexByte_ge r 47
        simp [h1] at h
        omega

theorem parts_hit : ∀ (s : List UInt8) (i : Nat), Lib.indexByte s 47 = (i : Int) → parts s = s.take i :: parts (s.drop (i + 1)) ∧ i < s.length
  | [], i, h => by simp [Lib.indexByte] at h
  | c :: r, i, h => by
    unfold Lib.indexByte at h
    by_cases hc : c = 47
    · simp [hc] at h
      obtain rfl : i = 0 := by omega
      simp [parts, hc]
    · have hb : (c == 47) = false := by simp [hc]
      rw [hb] at h
      by_cases h1 : Lib.indexByte r 47 = -1
      · simp [h1] at h
      · have hge := Lib.indexByte_ge r 47
        simp [h1] at h
        obtain ⟨j, rfl⟩ : ∃ j, i = j + 1 := ⟨i - 1, by omega⟩
        obtain ⟨e1, e2⟩ := parts_hit r j (by omega)
        refine ⟨?_, by simp; omega⟩
        simp [parts, hc, e1]

theorem index_cases (s : List UInt8) : Lib.indexByte s 47 = -1 ∨ ∃ i : Nat, Lib.indexByte s 47 = (i : Int) := by
  have := Lib.indexByte_ge s 47
  by_cases h : Lib.indexByte s 47 = -1
  · exact .inl h
  · exact .inr ⟨(Lib.indexByte s 47).toNat, by omega⟩

theorem parts_len (s : List UInt8) : (parts s).length ≤ s.length + 1 := by
  induction s with
  | nil => simp [parts]
  | cons c r ih =>
    unfold parts
    split
    · simp; omega
    · split
      · simp
      · next h => rw [h] at ih; simp at ih ⊢; omega

/-- No part holds a separator. -/
theorem parts_no (s : List UInt8) : ∀ p ∈ parts s, (47 : UInt8) ∉ p := by
  induction s with
  | nil => simp [parts]
  | cons c r ih =>
    intro p hp
    unfold parts at hp
    by_cases hc : c = 47
    · rw [if_pos hc] at hp
      rcases List.mem_cons.1 hp with rfl | h
      · simp
      · exact ih p h
    · rw [if_neg hc] at hp
      split at hp
      · simp at hp; subst hp; simp; exact fun e => hc e.symm
      · next q qs h =>
        rcases List.mem_cons.1 hp with rfl | h'
        · have := ih q (by rw [h]; simp)
          simp only [List.mem_cons, not_or]
          exact ⟨fun e => hc e.symm, this⟩
        · exact ih p (by rw [h]; simp [h'])

/-- Parts joined again. -/
theorem join_parts (s : List UInt8) : Lib.join (parts s) [47] = s := by
  induction s with
  | nil => rfl
  | cons c r ih =>
    unfold parts
    by_cases hc : c = 47
    · rw [if_pos hc, Lib.join_cons]
      cases h : parts r with
      | nil => exact absurd h (parts_ne r)
      | cons p ps =>
        rw [h, Lib.join_cons] at ih
        simp [Lib.joinTail] at ih ⊢
        exact ⟨hc.symm, ih⟩
    · rw [if_neg hc]
      cases h : parts r with
      | nil => exact absurd h (parts_ne r)
      | cons p ps =>
        rw [h, Lib.join_cons] at ih
        simp only [Lib.join_cons, List.cons_append, ih]

theorem parts_one (p : List UInt8) (h : (47 : UInt8) ∉ p) : parts p = [p] := by
  induction p with
  | nil => rfl
  | cons c r ih =>
    simp only [List.mem_cons, not_or] at h
    have hc : ¬ c = 47 := fun e => h.1 e.symm
    simp [parts, ih h.2, hc]

theorem parts_app (p : List UInt8) (h : (47 : UInt8) ∉ p) (r : List UInt8) : parts (p ++ 47 :: r) = p :: parts r := by
  induction p with
  | nil => simp [parts]
  | cons c q ih =>
    simp only [List.mem_cons, not_or] at h
    have hc : ¬ c = 47 := fun e => h.1 e.symm
    simp [parts, ih h.2, hc]

/-- Names joined have just these parts. -/
theorem parts_join : ∀ (l : List (List UInt8)), l ≠ [] → (∀ p ∈ l, (47 : UInt8) ∉ p) → parts (Lib.join l [47]) = l
  | [], h, _ => absurd rfl h
  | [p], _, h => by rw [Lib.join_one]; exact parts_one p (h p (by simp))
  | p :: q :: r, _, h => by
    have ih := parts_join (q :: r) (by simp) (fun x hx => h x (by simp [hx]))
    rw [Lib.join_cons] at ih
    rw [Lib.join_cons]
    simp only [Lib.joinTail, List.map_cons, List.flatten_cons] at ih ⊢
    have := parts_app p (h p (by simp)) (q ++ (r.map ([47] ++ ·)).flatten)
    rw [ih] at this
    simpa using this

theorem join_snoc (l : List (List UInt8)) (h : l ≠ []) (x : List UInt8) : Lib.join (l ++ [x]) [47] = Lib.join l [47] ++ 47 :: x := by
  cases l with
  | nil => exact absurd rfl h
  | cons p r => simp [Lib.join_cons, Lib.joinTail]

/-- One part more: what is left of the parts; none: a step up with nothing ahead of it. -/
def step (st : Option (List (List UInt8))) (p : List UInt8) : Option (List (List UInt8)) :=
  match st with
  | none => none
  | some acc => if p = [] ∨ p = [46] then some acc else if p = [46, 46] then (if acc = [] then none else some acc.dropLast) else some (acc ++ [p])
def left (l : List (List UInt8)) : Option (List (List UInt8)) := l.foldl step (some [])
theorem left_snoc (l : List (List UInt8)) (p : List UInt8) : left (l ++ [p]) = step (left l) p := by simp [left]
theorem foldl_none (l : List (List UInt8)) : l.foldl step none = none := by
  induction l with
  | nil => rfl
  | cons p r ih => simpa [step] using ih
theorem left_app_none (l r : List (List UInt8)) (h : left l = none) : left (l ++ r) = none := by
  unfold left at h ⊢
  rw [List.foldl_append, h, foldl_none]
theorem fold_len : ∀ (l a acc : List (List UInt8)), l.foldl step (some a) = some acc → acc.length ≤ a.length + l.length
  | [], a, acc, h => by simp at h; subst h; simp
  | p :: r, a, acc, h => by
    rw [List.foldl_cons, show step (some a) p = (if p = [] ∨ p = [46] then some a else if p = [46, 46] then (if a = [] then none else some a.dropLast) else some (a ++ [p])) from rfl] at h
    split at h
    · have := fold_len r _ _ h; simp; omega
    · split at h
      · split at h
        · rw [foldl_none] at h; simp at h
        · have := fold_len r _ _ h; simp at this ⊢; omega
      · have := fold_len r _ _ h; simp at this ⊢; omega
theorem left_len (l acc : List (List UInt8)) (h : left l = some acc) : acc.length ≤ l.length := by
  have := fold_len l [] acc h; simpa using this

/-- How many bytes parts take, a separator behind each. -/
def tot (l : List (List UInt8)) : Nat := (l.map fun p => p.length + 1).sum
theorem tot_parts (s : List UInt8) : tot (parts s) = s.length + 1 := by
  induction s with
  | nil => rfl
  | cons c r ih =>
    unfold parts
    by_cases hc : c = 47
    · rw [if_pos hc]; simp [tot] at ih ⊢; omega
    · rw [if_neg hc]
      cases h : parts r with
      | nil => exact absurd h (parts_ne r)
      | cons p ps => rw [h] at ih; simp [tot] at ih ⊢; omega
theorem fold_tot : ∀ (l a acc : List (List UInt8)), l.foldl step (some a) = some acc → tot acc ≤ tot a + tot l
  | [], a, acc, h => by simp at h; subst h; simp [tot]
  | p :: r, a, acc, h => by
    have hd : tot a.dropLast ≤ tot a := by
      cases ha : a with
      | nil => simp [tot]
      | cons x xs =>
        have e := List.dropLast_concat_getLast (l := x :: xs) (by simp)
        have : tot (x :: xs) = tot (x :: xs).dropLast + ((x :: xs).getLast (by simp)).length + 1 := by
          conv => lhs; rw [← e]
          simp [tot]; omega
        omega
    rw [List.foldl_cons, show step (some a) p = (if p = [] ∨ p = [46] then some a else if p = [46, 46] then (if a = [] then none else some a.dropLast) else some (a ++ [p])) from rfl] at h
    have hc : tot (p :: r) = p.length + 1 + tot r := by simp [tot]
    split at h
    · have := fold_tot r _ _ h; omega
    · split at h
      · split at h
        · rw [foldl_none] at h; simp at h
        · have := fold_tot r _ _ h; omega
      · have := fold_tot r _ _ h
        have e : tot (a ++ [p]) = tot a + p.length + 1 := by simp [tot]; omega
        omega
theorem join_tot (l : List (List UInt8)) (h : l ≠ []) : (Lib.join l [47]).length + 1 = tot l := by
  cases l with
  | nil => exact absurd rfl h
  | cons p r =>
    rw [Lib.join_cons]
    clear h
    induction r generalizing p with
    | nil => simp [tot, Lib.joinTail]
    | cons q r ih =>
      have := ih q
      simp [tot, Lib.joinTail] at this ⊢
      omega
theorem left_join (s : List UInt8) (a : List (List UInt8)) (h : left (parts s) = some a) (ha : a ≠ []) : (Lib.join a [47]).length ≤ s.length := by
  have h1 := fold_tot _ _ _ h
  have h2 := join_tot a ha
  have h3 := tot_parts s
  have h4 : tot [] = 0 := rfl
  omega
end Go.Proofs.YthokjegephlpmaaDoor.Kf
