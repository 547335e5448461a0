import Derived.Lib.Bytealg
import Derived.Lib.Join
namespace Go.Proofs.YtdljhggillgpfaaGreatDoor.Kf
def parts : List UInt8 → List (List UInt8)
 | [] => [[]]
 | c :: r => if c = 47 then [] :: parts r else match parts r with
  | [] => [[c]]
  | p :: ps => (c :: p) :: ps
theorem parts_ne (s : List UInt8) : parts s ≠ [] := by
 cases s with
 | nil => simp [parts]
 | cons c r =>
  unfold parts
  split
  ·simp
  ·split <;> simp
theorem parts_miss : ∀ (s : List UInt8),Lib.indexByte s 47 = -1 → parts s = [s]
 | [],_ => rfl
 | c :: r,h => by
  unfold Lib.indexByte at h
  by_cases hc : c = 47
  ·simp [hc] at h
  ·have hb : (c == 47) = false := by simp [hc]
   rw [hb] at h
   by_cases h1 : Lib.indexByte r 47 = -1
   ·have := parts_miss r h1
    simp [parts,hc,this]
   ·have hge := Lib.indexByte_ge r 47
    simp [h1] at h
    omega
theorem parts_hit : ∀ (s : List UInt8) (i : Nat),Lib.indexByte s 47 = (i : Int) → parts s = s.take i :: parts (s.drop (i + 1)) ∧ i < s.length
 | [],i,h => by simp [Lib.indexByte] at h
 | c :: r,i,h => by
  unfold Lib.indexByte at h
  by_cases hc : c = 47
  ·simp [hc] at h
   obtain rfl : i = 0 := by omega
   simp [parts,hc]
  ·have hb : (c == 47) = false := by simp [hc]
   rw [hb] at h
   by_cases h1 : Lib.indexByte r 47 = -1
   ·simp [h1] at h
   ·have hge := Lib.indexByte_ge r 47
    simp [h1] at h
    obtain ⟨j,rfl⟩ : ∃ j,i = j + 1 := ⟨i - 1,by omega⟩
    obtain ⟨e1,e2⟩ := parts_hit r j (by omega)
    refine ⟨?_,by simp;omega⟩
    simp [parts,hc,e1]
theorem index_cases (s : List UInt8) : Lib.indexByte s 47 = -1 ∨ ∃ i : Nat,Lib.indexByte s 47 = (i : Int) := by
 have := Lib.indexByte_ge s 47
 by_cases h : Lib.indexByte s 47 = -1
 ·exact .inl h
 ·exact .inr ⟨(Lib.indexByte s 47).toNat,by omega⟩
def step (st : Option (List (List UInt8))) (p : List UInt8) : Option (List (List UInt8)) :=
 match st with
 | none => none
 | some acc => if p = [] ∨ p = [46] then some acc else if p = [46,46] then (if acc = [] then none else some acc.dropLast) else some (acc ++ [p])
def left (l : List (List UInt8)) : Option (List (List UInt8)) := l.foldl step (some [])
theorem foldl_none (l : List (List UInt8)) : l.foldl step none = none := by
 induction l with
 | nil => rfl
 | cons p r ih => simpa [step] using ih
theorem fold_len : ∀ (l a acc : List (List UInt8)),l.foldl step (some a) = some acc → acc.length ≤ a.length + l.length
 | [],a,acc,h => by simp at h;subst h;simp
 | p :: r,a,acc,h => by
  rw [List.foldl_cons,show step (some a) p = (if p = [] ∨ p = [46] then some a else if p = [46,46] then (if a = [] then none else some a.dropLast) else some (a ++ [p])) from rfl] at h
  split at h
  ·have := fold_len r _ _ h;simp;omega
  ·split at h
   ·split at h
    ·rw [foldl_none] at h;simp at h
    ·have := fold_len r _ _ h;simp at this ⊢;omega
   ·have := fold_len r _ _ h;simp at this ⊢;omega
theorem left_len (l acc : List (List UInt8)) (h : left l = some acc) : acc.length ≤ l.length := by
 have := fold_len l [] acc h;simpa using this
def tot (l : List (List UInt8)) : Nat := (l.map fun p => p.length + 1).sum
theorem tot_parts (s : List UInt8) : tot (parts s) = s.length + 1 := by
 induction s with
 | nil => rfl
 | cons c r ih =>
  unfold parts
  by_cases hc : c = 47
  ·rw [if_pos hc];simp [tot] at ih ⊢;omega
  ·rw [if_neg hc]
   cases h : parts r with
   | nil => exact absurd h (parts_ne r)
   | cons p ps => rw [h] at ih;simp [tot] at ih ⊢;omega
end Go.Proofs.YtdljhggillgpfaaGreatDoor.Kf
