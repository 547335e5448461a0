import Derived.Test.YthchjnopgagilaaGreatDoorPA12
namespace Go.Proofs.YthchjnopgagilaaGreatDoor
open Go.RowKit Go.Shelf Go.Lib
namespace Ru
def needs (l : List Ru) (i k : Nat) : Bool :=
 match l[i]?,l[k]? with
 | some a,some b => decide (b.out ∈ a.ins)
 | _,_ => false
theorem needs_eq {l : List Ru} {i k : Nat} (hi : i < l.length) (hk : k < l.length) : needs l i k = decide (l[k].out ∈ l[i].ins) := by
 unfold needs
 rw [List.getElem?_eq_getElem hi,List.getElem?_eq_getElem hk]
theorem needs_lt {l : List Ru} {i k : Nat} (h : needs l i k = true) : i < l.length ∧ k < l.length := by
 unfold needs at h
 split at h
 ·rename_i a b ha hb
  exact ⟨(List.getElem?_eq_some_iff.1 ha).1,(List.getElem?_eq_some_iff.1 hb).1⟩
 ·cases h
def freeTo (l : List Ru) (done : Nat → Bool) (i m : Nat) : Bool := (List.range m).all fun k => done k || !needs l i k
def may (l : List Ru) (some done : Nat → Bool) (i : Nat) : Bool := some i && !done i && freeTo l done i l.length
def nextTo (l : List Ru) (some done : Nat → Bool) (m : Nat) : Option Nat := (List.range m).find? (may l some done)
theorem nextTo_succ (l : List Ru) (some done : Nat → Bool) (m : Nat) : nextTo l some done (m + 1) = (nextTo l some done m).or (if may l some done m = true then Option.some m else none) := by
 unfold nextTo
 rw [List.range_succ,List.find?_append]
 congr 1
 simp [List.find?_cons]
 split <;> simp_all
def leftTo (some done : Nat → Bool) (m : Nat) : Bool := (List.range m).any fun i => some i && !done i
theorem leftTo_succ (some done : Nat → Bool) (m : Nat) : leftTo some done (m + 1) = (leftTo some done m || (some m && !done m)) := by
 unfold leftTo
 rw [List.range_succ,List.any_append]
 simp
def isIn (o : List Nat) (i : Nat) : Bool := decide (i ∈ o)
def orderF (l : List Ru) (some : Nat → Bool) : Nat → List Nat → Option (List Nat)
 | 0,_ => none
 | f + 1,o =>
  if leftTo some (isIn o) l.length = true then
   match nextTo l some (isIn o) l.length with
   | none => none
   | Option.some i => orderF l some f (o ++ [i])
  else Option.some o
def order (l : List Ru) (some : Nat → Bool) : Option (List Nat) := orderF l some (l.length + 1) []
theorem nextTo_some {l : List Ru} {some done : Nat → Bool} {m i : Nat} (h : nextTo l some done m = Option.some i) : i < m ∧ may l some done i = true := by
 unfold nextTo at h
 exact ⟨List.mem_range.1 (List.mem_of_find?_eq_some h),List.find?_some h⟩
end Ru
end Go.Proofs.YthchjnopgagilaaGreatDoor
namespace Go.Proofs.YthchjnopgagilaaGreatDoor
open Go.RowKit Go.Shelf Go.Lib
namespace Ru
def base (l : List Ru) (outs : List (List UInt8)) (k : Nat) : Bool :=
 match l[k]? with
 | some r => decide (r.out ∈ outs)
 | none => false
theorem base_eq {l : List Ru} {outs : List (List UInt8)} {k : Nat} (h : k < l.length) : base l outs k = decide (l[k].out ∈ outs) := by
 unfold base
 rw [List.getElem?_eq_getElem h]
structure Needed (l : List Ru) (outs : List (List UInt8)) (f : Nat → Bool) : Prop where
 start : ∀ k,base l outs k = true → f k = true
 closed : ∀ i k,f i = true → needs l i k = true → f k = true
 least : ∀ P : Nat → Prop,(∀ k,base l outs k = true → P k) → (∀ i k,P i → needs l i k = true → P k) → ∀ k,k < l.length → f k = true → P k
theorem Needed.unique {l : List Ru} {outs : List (List UInt8)} {f g : Nat → Bool} (hf : Needed l outs f) (hg : Needed l outs g) (k : Nat) (hk : k < l.length) : f k = g k := by
 rw [Bool.eq_iff_iff]
 exact ⟨hf.least (fun k => g k = true) hg.start hg.closed k hk,hg.least (fun k => f k = true) hf.start hf.closed k hk⟩
def cnt (f : Nat → Bool) : Nat → Nat
 | 0 => 0
 | n + 1 => cnt f n + (if f n = true then 1 else 0)
theorem base_lt {l : List Ru} {outs : List (List UInt8)} {k : Nat} (h : base l outs k = true) : k < l.length := by
 unfold base at h
 split at h
 ·rename_i r hr
  exact (List.getElem?_eq_some_iff.1 hr).1
 ·cases h
end Ru
end Go.Proofs.YthchjnopgagilaaGreatDoor
namespace Go.Proofs.YthchjnopgagilaaGreatDoor
namespace Cf
abbrev En : Type := List UInt8 × List UInt8
abbrev Ens : Type := List En
def keys (l : Ens) : List (List UInt8) := l.map (·.1)
def rm (l : Ens) (k : List UInt8) : Ens := l.filter fun e => !(e.1 == k)
def cut (many : Nat) (l : Ens) : Ens := if many < l.length then l.drop 1 else l
def put (many : Nat) (l : Ens) (k b : List UInt8) : Ens := cut many (rm l k ++ [(k,b)])
def find (l : Ens) (k : List UInt8) : Option (List UInt8) := (l.find? fun e => e.1 == k).map (·.2)
def get (many : Nat) (l : Ens) (k : List UInt8) : Ens := match find l k with | some b => put many l k b | none => l
theorem mem_rm {l : Ens} {k : List UInt8} {e : En} : e ∈ rm l k ↔ e ∈ l ∧ e.1 ≠ k := by simp [rm]
theorem rm_le (l : Ens) (k : List UInt8) : (rm l k).length ≤ l.length := List.length_filter_le _ _
theorem rm_sub (l : Ens) (k : List UInt8) : (rm l k).Sublist l := List.filter_sublist
theorem rm_none {l : Ens} {k : List UInt8} (h : k ∉ keys l) : rm l k = l := by
 unfold rm
 rw [List.filter_eq_self]
 intro e he
 have : e.1 ≠ k := fun x => h (List.mem_map.2 ⟨e,he,x⟩)
 simpa using this
theorem rm_ge {l : Ens} (h : (keys l).Nodup) (k : List UInt8) : l.length ≤ (rm l k).length + 1 := by
 induction l with
 | nil => simp
 | cons x t ih =>
  obtain ⟨h1,h2⟩ := List.nodup_cons.1 h
  by_cases e : x.1 = k
  ·have : rm (x :: t) k = rm t k := by unfold rm;rw [List.filter_cons_of_neg (by simp [e])]
   rw [this,rm_none (e ▸ h1)]
   simp
  ·have : rm (x :: t) k = x :: rm t k := by unfold rm;rw [List.filter_cons_of_pos (by simp [e])]
   rw [this]
   have := ih h2
   simp
   omega
theorem keys_sub {a b : Ens} (h : a.Sublist b) : (keys a).Sublist (keys b) := h.map _
theorem rm_once {l : Ens} (h : (keys l).Nodup) (k : List UInt8) : (keys (rm l k)).Nodup := (keys_sub (rm_sub l k)).nodup h
theorem rm_key (l : Ens) (k : List UInt8) : k ∉ keys (rm l k) := by
 intro h
 obtain ⟨e,he,hk⟩ := List.mem_map.1 h
 exact (mem_rm.1 he).2 hk
structure Ok (many : Nat) (l : Ens) : Prop where
 few : l.length ≤ many
 once : (keys l).Nodup
theorem Ok.nil (many : Nat) : Ok many [] := ⟨Nat.zero_le _,List.nodup_nil⟩
theorem put_once {l : Ens} (h : (keys l).Nodup) (k b : List UInt8) : (keys (rm l k ++ [(k,b)])).Nodup := by
 unfold keys
 rw [List.map_append,List.nodup_append]
 refine ⟨rm_once h k,by simp,fun x hx y hy => ?_⟩
 simp at hy
 subst hy
 rintro rfl
 exact rm_key l x hx
theorem Ok.put {many : Nat} {l : Ens} (h : Ok many l) (k b : List UInt8) : Ok many (Cf.put many l k b) := by
 have hl : (rm l k ++ [(k,b)]).length ≤ many + 1 := by
  rw [List.length_append,List.length_singleton]
  have := rm_le l k
  have := h.few
  omega
 have ho := put_once h.once k b
 unfold Cf.put cut
 split
 ·refine ⟨by rw [List.length_drop];omega,(keys_sub (List.drop_sublist 1 _)).nodup ho⟩
 ·exact ⟨by omega,ho⟩
theorem Ok.get {many : Nat} {l : Ens} (h : Ok many l) (k : List UInt8) : Ok many (Cf.get many l k) := by
 unfold Cf.get
 split
 ·exact h.put _ _
 ·exact h
theorem find_some {l : Ens} {k b : List UInt8} (h : find l k = some b) : (k,b) ∈ l := by
 unfold find at h
 cases hf : l.find? fun e => e.1 == k with
 | none => rw [hf] at h;cases h
 | some e =>
  rw [hf] at h
  have h1 := List.find?_some hf
  have h2 := List.mem_of_find?_eq_some hf
  have e1 : e.1 = k := by simpa using h1
  have e2 : e.2 = b := by simpa using h
  rw [← e1,← e2]
  exact h2
theorem find_none {l : Ens} {k : List UInt8} (h : find l k = none) : k ∉ keys l := by
 unfold find at h
 intro hk
 obtain ⟨e,he,e1⟩ := List.mem_map.1 hk
 have h0 : (l.find? fun e => e.1 == k) = none := by
  cases hf : l.find? fun e => e.1 == k with
  | none => rfl
  | some x => rw [hf] at h;cases h
 have := List.find?_eq_none.1 h0 e he
 simp at this
 exact this e1
theorem find_mem {l : Ens} (ho : (keys l).Nodup) {k b : List UInt8} (h : (k,b) ∈ l) : find l k = some b := by
 cases hf : find l k with
 | none => exact absurd (List.mem_map.2 ⟨_,h,rfl⟩) (find_none hf)
 | some c =>
  have h2 := find_some hf
  obtain ⟨i,hi,ei⟩ := List.getElem_of_mem h
  obtain ⟨j,hj,ej⟩ := List.getElem_of_mem h2
  have hp := List.pairwise_iff_getElem.1 ho
  have hki : ∀ m (hm : m < l.length),(keys l)[m]'(by simpa [keys] using hm) = l[m].1 := fun m hm => by simp [keys]
  rcases Nat.lt_trichotomy i j with h3 | h3 | h3
  ·exact absurd (by rw [hki i hi,hki j hj,ei,ej]) (hp i j (by simpa [keys] using hi) (by simpa [keys] using hj) h3)
  ·subst h3
   rw [ei] at ej
   rw [(Prod.mk.inj ej).2]
  ·exact absurd (by rw [hki i hi,hki j hj,ei,ej]) (hp j i (by simpa [keys] using hj) (by simpa [keys] using hi) h3)
theorem get_hit {many : Nat} {l : Ens} (h : Ok many l) {k b : List UInt8} (hf : find l k = some b) : Cf.get many l k = rm l k ++ [(k,b)] ∧ (Cf.get many l k).Perm l := by
 have hm := find_some hf
 have hl : (rm l k ++ [(k,b)]).Perm l := by
  refine (List.perm_ext_iff_of_nodup ?_ ?_).2 fun e => ?_
  ·have := put_once h.once k b
   exact List.Pairwise.of_map (S := fun a b => a ≠ b) (f := fun e : En => e.1) (fun a b hab e => hab (by rw [e])) this
  ·exact List.Pairwise.of_map (S := fun a b => a ≠ b) (f := fun e : En => e.1) (fun a b hab e => hab (by rw [e])) h.once
  ·rw [List.mem_append,List.mem_singleton,mem_rm]
   constructor
   ·rintro (h1 | rfl)
    ·exact h1.1
    ·exact hm
   ·intro he
    by_cases e1 : e.1 = k
    ·right
     have h1 : find l k = some e.2 := find_mem h.once (by rw [← e1];exact he)
     rw [hf] at h1
     rw [Option.some.inj h1,← e1]
    ·exact .inl ⟨he,e1⟩
 have hlen := hl.length_eq
 have hg : Cf.get many l k = rm l k ++ [(k,b)] := by
  unfold Cf.get Cf.put cut
  rw [hf]
  simp only
  rw [if_neg (by rw [hlen];have := h.few;omega)]
 exact ⟨hg,hg ▸ hl⟩
def recR : Ens → Ens
 | [] => []
 | x :: t => x :: rm (recR t) x.1
def kept (many : Nat) (A : Ens) : Ens := ((recR A.reverse).take many).reverse
theorem nodup_len {α : Type} [DecidableEq α] : ∀ {a b : List α},a.Nodup → (∀ x ∈ a,x ∈ b) → a.length ≤ b.length
 | [],_,_,_ => Nat.zero_le _
 | x :: r,b,hd,hs => by
  obtain ⟨hx,hr⟩ := List.nodup_cons.1 hd
  have hxb : x ∈ b := hs x (by simp)
  have := nodup_len (a := r) (b := b.erase x) hr fun y hy => by
   have hne : y ≠ x := fun e => hx (e ▸ hy)
   exact (List.mem_erase_of_ne hne).2 (hs y (List.mem_cons_of_mem _ hy))
  rw [List.length_erase_of_mem hxb] at this
  have hp := List.length_pos_of_mem hxb
  simp
  omega
end Cf
end Go.Proofs.YthchjnopgagilaaGreatDoor
namespace Go.Proofs.YthchjnopgagilaaGreatDoor
open Go.Lib
theorem digits_step (n : Nat) : Lib.decDigits n = if n < 10 then [UInt8.ofNat (48 + n)] else Lib.decDigits (n / 10) ++ [UInt8.ofNat (48 + n % 10)] := by
 by_cases h : n < 10
 ·rw [if_pos h,Lib.decDigits_one h]
 ·rw [if_neg h,Lib.decDigits,dif_neg h]
theorem digits_range (n : Nat) : ∀ b ∈ Lib.decDigits n,48 ≤ b.toNat ∧ b.toNat ≤ 57 := by
 induction n using Nat.strongRecOn with
 | _ n ih =>
  intro b hb
  rw [digits_step] at hb
  split at hb
  ·rw [List.mem_singleton.1 hb]
   simp [UInt8.toNat_ofNat]
   omega
  ·rename_i h
   rcases List.mem_append.1 hb with h1 | h1
   ·exact ih (n / 10) (by omega) b h1
   ·rw [List.mem_singleton.1 h1]
    simp [UInt8.toNat_ofNat]
    omega
theorem digit_inj {a b : Nat} (ha : a < 10) (hb : b < 10) (h : UInt8.ofNat (48 + a) = UInt8.ofNat (48 + b)) : a = b := by
 have := congrArg UInt8.toNat h
 simp [UInt8.toNat_ofNat] at this
 omega
theorem kdigits_ne (n : Nat) : Lib.decDigits n ≠ [] := by
 rw [digits_step]
 split <;> simp
theorem digits_inj : ∀ (a b : Nat),Lib.decDigits a = Lib.decDigits b → a = b := by
 intro a
 induction a using Nat.strongRecOn with
 | _ a ih =>
  intro b h
  rw [digits_step a,digits_step b] at h
  by_cases ha : a < 10
  ·by_cases hb : b < 10
   ·rw [if_pos ha,if_pos hb] at h
    exact digit_inj ha hb (by simpa using h)
   ·rw [if_pos ha,if_neg hb] at h
    have hl := congrArg List.length h
    have := List.length_pos_iff.2 (kdigits_ne (b / 10))
    simp at hl
    exact absurd hl (kdigits_ne _)
  ·by_cases hb : b < 10
   ·rw [if_neg ha,if_pos hb] at h
    have hl := congrArg List.length h
    simp at hl
    exact absurd hl (kdigits_ne _)
   ·rw [if_neg ha,if_neg hb] at h
    have hl : (Lib.decDigits (a / 10)).length = (Lib.decDigits (b / 10)).length := by
     have := congrArg List.length h
     simpa using this
    obtain ⟨h1,h2⟩ := List.append_inj h hl
    have e1 := ih (a / 10) (by omega) (b / 10) h1
    have e2 := digit_inj (a := a % 10) (b := b % 10) (by omega) (by omega) (by simpa using h2)
    omega
def Kp.piece (s : List UInt8) : List UInt8 := Lib.decDigits s.length ++ 58 :: s
def Kp.key (kind word : List UInt8) (ins : List (List UInt8)) : List UInt8 := Kp.piece kind ++ Kp.piece word ++ ins.flatMap Kp.piece
theorem colon_split : ∀ (a b r s : List UInt8),(58 : UInt8) ∉ a → (58 : UInt8) ∉ b → a ++ 58 :: r = b ++ 58 :: s → a = b ∧ r = s
 | [],[],r,s,_,_,h => ⟨rfl,by simpa using h⟩
 | [],y :: b,r,s,_,hb,h => by
  simp at h
  exact absurd (h.1 ▸ List.mem_cons_self) hb
 | x :: a,[],r,s,ha,_,h => by
  simp at h
  exact absurd (h.1 ▸ List.mem_cons_self) ha
 | x :: a,y :: b,r,s,ha,hb,h => by
  simp only [List.cons_append,List.cons.injEq] at h
  obtain ⟨e1,e2⟩ := colon_split a b r s (fun hm => ha (List.mem_cons_of_mem _ hm)) (fun hm => hb (List.mem_cons_of_mem _ hm)) h.2
  exact ⟨by rw [h.1,e1],e2⟩
theorem no58 (n : Nat) : (58 : UInt8) ∉ Lib.decDigits n := fun h => by
 have := digits_range n 58 h
 simp at this
theorem Kp.piece_inj {s s' r r' : List UInt8} (h : Kp.piece s ++ r = Kp.piece s' ++ r') : s = s' ∧ r = r' := by
 unfold Kp.piece at h
 rw [List.append_assoc,List.append_assoc,List.cons_append,List.cons_append] at h
 obtain ⟨h1,h2⟩ := colon_split _ _ _ _ (no58 _) (no58 _) h
 exact List.append_inj h2 (digits_inj _ _ h1)
theorem Kp.piece_ne (s : List UInt8) : Kp.piece s ≠ [] := by
 unfold Kp.piece
 simp
theorem Kp.flat_inj : ∀ (a b : List (List UInt8)),a.flatMap Kp.piece = b.flatMap Kp.piece → a = b
 | [],[],_ => rfl
 | [],y :: b,h => by
  rw [List.flatMap_nil,List.flatMap_cons] at h
  exact absurd (List.append_eq_nil_iff.1 h.symm).1 (Kp.piece_ne y)
 | x :: a,[],h => by
  rw [List.flatMap_nil,List.flatMap_cons] at h
  exact absurd (List.append_eq_nil_iff.1 h).1 (Kp.piece_ne x)
 | x :: a,y :: b,h => by
  rw [List.flatMap_cons,List.flatMap_cons] at h
  obtain ⟨h1,h2⟩ := Kp.piece_inj h
  rw [h1,Kp.flat_inj a b h2]
theorem Kp.key_inj {k w k' w' : List UInt8} {l l' : List (List UInt8)} : Kp.key k w l = Kp.key k' w' l' ↔ k = k' ∧ w = w' ∧ l = l' := by
 constructor
 ·intro h
  unfold Kp.key at h
  rw [List.append_assoc,List.append_assoc] at h
  obtain ⟨h1,h2⟩ := Kp.piece_inj h
  obtain ⟨h3,h4⟩ := Kp.piece_inj h2
  exact ⟨h1,h3,Kp.flat_inj _ _ h4⟩
 ·rintro ⟨rfl,rfl,rfl⟩
  rfl
end Go.Proofs.YthchjnopgagilaaGreatDoor
namespace Go.Proofs.YthchjnopgagilaaGreatDoor
namespace Bf
inductive St where
 | no | waits | done (s : List UInt8) (hit : Bool) | failed (why : Nat) | left
def St.isWaits : St → Bool | .waits => true | _ => false
def St.isDone : St → Bool | .done _ _ => true | _ => false
def St.isBad : St → Bool | .failed _ => true | .left => true | _ => false
def St.isNo : St → Bool | .no => true | _ => false
def St.isFailed : St → Bool | .failed _ => true | _ => false
def St.isLeft : St → Bool | .left => true | _ => false
def St.name : St → List UInt8
 | .no => []
 | .waits => [119,97,105,116,115]
 | .done _ _ => [100,111,110,101]
 | .failed _ => [102,97,105,108,101,100]
 | .left => [108,101,102,116]
def St.out : St → List UInt8 | .done s _ => s | _ => []
def St.hit : St → Bool | .done _ h => h | _ => false
def St.why : St → Nat | .failed c => c | _ => 0
theorem St.bad_eq (s : St) : s.isBad = (s.isFailed || s.isLeft) := by cases s <;> rfl
theorem St.waits_eq {s : St} (h : s.isWaits = true) : s = .waits := by cases s <;> first | rfl | cases h
structure Bd where
 fs : Tf.Fs
 l : List Ru
 st : Nat → St
def setS (st : Nat → St) (i : Nat) (s : St) : Nat → St := fun j => if j = i then s else st j
theorem setS_same (st : Nat → St) (i : Nat) (s : St) : setS st i s i = s := if_pos rfl
theorem setS_other {st : Nat → St} {i j : Nat} {s : St} (h : j ≠ i) : setS st i s j = st j := if_neg h
def Bd.set (d : Bd) (i : Nat) (s : St) : Bd := { d with st := setS d.st i s }
def freeTo (l : List Ru) (st : Nat → St) (i m : Nat) : Bool := (List.range m).all fun k => !(Ru.needs l i k && !(st k).isDone)
def Bd.isReady (d : Bd) (i : Nat) : Bool := (d.st i).isWaits && freeTo d.l d.st i d.l.length
def Bd.readyTo (d : Bd) (m : Nat) : List Nat := (List.range m).filter d.isReady
def Bd.ready (d : Bd) : List Nat := d.readyTo d.l.length
theorem readyTo_len (d : Bd) (m : Nat) : (d.readyTo m).length ≤ m := by
 have := List.length_filter_le d.isReady (List.range m)
 simpa [Bd.readyTo] using this
theorem mem_ready {d : Bd} {i : Nat} : i ∈ d.ready ↔ i < d.l.length ∧ d.isReady i = true := by
 unfold Bd.ready Bd.readyTo
 rw [List.mem_filter,List.mem_range]
theorem ready_free {d : Bd} {i k : Nat} (h : d.isReady i = true) (hk : k < d.l.length) (hn : Ru.needs d.l i k = true) : (d.st k).isDone = true := by
 unfold Bd.isReady freeTo at h
 rw [Bool.and_eq_true,List.all_eq_true] at h
 have := h.2 k (List.mem_range.2 hk)
 rw [hn] at this
 simpa using this
theorem ready_waits {d : Bd} {i : Nat} (h : d.isReady i = true) : d.st i = .waits := by
 unfold Bd.isReady at h
 rw [Bool.and_eq_true] at h
 exact St.waits_eq h.1
theorem ready_of {d : Bd} {i : Nat} (h : d.st i = .waits) (hf : ∀ k,k < d.l.length → Ru.needs d.l i k = true → (d.st k).isDone = true) : d.isReady i = true := by
 unfold Bd.isReady freeTo
 rw [h,Bool.and_eq_true,List.all_eq_true]
 refine ⟨rfl,fun k hk => ?_⟩
 by_cases hn : Ru.needs d.l i k = true
 ·rw [hn,hf k (List.mem_range.1 hk) hn];rfl
 ·rw [Bool.not_eq_true] at hn
  rw [hn];rfl
inductive Chain (l : List Ru) (st : Nat → St) : Nat → Prop
 | one {k j : Nat} : Ru.needs l k j = true → (st j).isBad = true → Chain l st k
 | more {k j : Nat} : Ru.needs l k j = true → (st j).isWaits = true → Chain l st j → Chain l st k
open Classical in
noncomputable def spread (l : List Ru) (st : Nat → St) : Nat → St := fun k => if (st k).isWaits = true ∧ Chain l st k then .left else st k
noncomputable def Bd.fail (d : Bd) (i c : Nat) : Bd := { d with st := spread d.l (setS d.st i (.failed c)) }
def mkr (l : List Ru) (x : List UInt8) : Option Nat := l.findIdx? fun r => r.out == x
def Bd.bytes (d : Bd) (x : List UInt8) : Option (List UInt8) :=
 match mkr d.l x with
 | some j => some (d.st j).out
 | none => Tf.get d.fs x
def inB (f : List UInt8 → Option (List UInt8)) : List (List UInt8) → Option (List (List UInt8))
 | [] => some []
 | x :: r => match f x with
  | none => none
  | some b => (inB f r).map (b :: ·)
theorem inB_len {f : List UInt8 → Option (List UInt8)} : ∀ {a o : List (List UInt8)},inB f a = some o → o.length = a.length
 | [],o,h => by cases h;rfl
 | y :: r,o,h => by
  unfold inB at h
  cases hy : f y with
  | none => rw [hy] at h;cases h
  | some b =>
   rw [hy] at h
   cases hr : inB f r with
   | none => rw [hr] at h;cases h
   | some q =>
    rw [hr] at h
    obtain rfl : b :: q = o := by simpa using h
    simp [inB_len hr]
theorem inB_mem {f : List UInt8 → Option (List UInt8)} : ∀ {a o : List (List UInt8)},inB f a = some o → ∀ b ∈ o,∃ x ∈ a,f x = some b
 | [],o,h,b,hb => by cases h;cases hb
 | y :: r,o,h,b,hb => by
  unfold inB at h
  cases hy : f y with
  | none => rw [hy] at h;cases h
  | some c =>
   rw [hy] at h
   cases hr : inB f r with
   | none => rw [hr] at h;cases h
   | some q =>
    rw [hr] at h
    obtain rfl : c :: q = o := by simpa using h
    rcases List.mem_cons.1 hb with rfl | hb
    ·exact ⟨y,by simp,hy⟩
    ·obtain ⟨x,hx,e⟩ := inB_mem hr b hb
     exact ⟨x,List.mem_cons_of_mem _ hx,e⟩
abbrev Ca : Type := Option (Nat × Cf.Ens)
def cfind : Ca → List UInt8 → Option (List UInt8)
 | some (_,l),k => Cf.find l k
 | none,_ => none
def cget : Ca → List UInt8 → Ca
 | some (m,l),k => some (m,Cf.get m l k)
 | none,_ => none
def cput : Ca → List UInt8 → List UInt8 → Ca
 | some (m,l),k,b => some (m,Cf.put m l k b)
 | none,_,_ => none
structure Res where
 hit : Bool
 code : Nat
 d : Bd
 c : Ca
abbrev Act : Type := List UInt8 → List UInt8 → List (List UInt8) → List UInt8 × Nat
def Bd.rule (d : Bd) (i : Nat) : Ru := d.l.getD i ⟨[],[],[],[]⟩
def Bd.ins (d : Bd) (i : Nat) : Option (List (List UInt8)) := inB d.bytes (d.rule i).ins
noncomputable def go (act : Act) (c : Ca) (d : Bd) (i : Nat) : Res :=
 match d.ins i with
 | none => ⟨false,0,d.fail i 6,c⟩
 | some xs =>
  match cfind c (Kp.key (d.rule i).kind (d.rule i).word xs) with
  | some s => ⟨true,0,d.set i (.done s true),cget c (Kp.key (d.rule i).kind (d.rule i).word xs)⟩
  | none =>
   if (act (d.rule i).kind (d.rule i).word xs).2 = 0 then ⟨false,0,d.set i (.done (act (d.rule i).kind (d.rule i).word xs).1 false),cput c (Kp.key (d.rule i).kind (d.rule i).word xs) (act (d.rule i).kind (d.rule i).word xs).1⟩
   else ⟨false,0,d.fail i (act (d.rule i).kind (d.rule i).word xs).2,c⟩
noncomputable def runN (act : Act) (c : Ca) (d : Bd) (i : Nat) : Res :=
 if (d.st i).isNo = true then ⟨false,6,d,c⟩
 else if (d.st i).isWaits = false then ⟨false,12,d,c⟩
 else if d.isReady i = false then ⟨false,11,d,c⟩
 else go act c d i
noncomputable def run (act : Act) (c : Ca) (d : Bd) (i : Int) : Res :=
 if i < 0 ∨ (d.l.length : Int) ≤ i then ⟨false,6,d,c⟩ else runN act c d i.toNat
def many (st : Nat → St) (p : St → Bool) : Nat → Nat
 | 0 => 0
 | n + 1 => many st p n + (if p (st n) = true then 1 else 0)
theorem many_le (st : Nat → St) (p : St → Bool) : ∀ n,many st p n ≤ n
 | 0 => Nat.le_refl _
 | n + 1 => by
  have := many_le st p n
  unfold many
  split <;> omega
theorem many_less {st st' : Nat → St} {p : St → Bool} {i : Nat} : ∀ {n : Nat},i < n → p (st i) = true → p (st' i) = false → (∀ k,p (st' k) = true → p (st k) = true) → many st' p n < many st p n
 | 0,h,_,_,_ => by omega
 | n + 1,h,h1,h2,h3 => by
  have hle : ∀ m,many st' p m ≤ many st p m := by
   intro m
   induction m with
   | zero => exact Nat.le_refl _
   | succ m ih =>
    unfold many
    by_cases hp : p (st' m) = true
    ·rw [if_pos hp,if_pos (h3 m hp)];omega
    ·rw [if_neg hp];split <;> omega
  unfold many
  by_cases e : i = n
  ·subst e
   have := hle i
   rw [if_pos h1,if_neg (by rw [h2];simp)]
   omega
  ·have ih := many_less (n := n) (by omega) h1 h2 h3
   by_cases hp : p (st' n) = true
   ·rw [if_pos hp,if_pos (h3 n hp)];omega
   ·rw [if_neg hp];split <;> omega
theorem many_zero {st : Nat → St} {p : St → Bool} : ∀ {n : Nat},many st p n = 0 → ∀ k,k < n → p (st k) = false
 | 0,_,k,hk => by omega
 | n + 1,h,k,hk => by
  unfold many at h
  by_cases e : k = n
  ·subst e
   cases hp : p (st k) with
   | false => rfl
   | true => rw [hp] at h;simp at h
  ·exact many_zero (n := n) (by omega) k (by omega)
def Bd.waits (d : Bd) : Nat := many d.st St.isWaits d.l.length
theorem spread_waits {l : List Ru} {st : Nat → St} {k : Nat} (h : (spread l st k).isWaits = true) : (st k).isWaits = true ∧ ¬ Chain l st k := by
 unfold spread at h
 split at h
 ·cases h
 ·rename_i hn
  exact ⟨h,fun hc => hn ⟨h,hc⟩⟩
theorem spread_keeps {l : List Ru} {st : Nat → St} {k : Nat} (h : (st k).isWaits = false) : spread l st k = st k := by
 unfold spread
 rw [if_neg (by rw [h];simp)]
theorem go_less (act : Act) (c : Ca) (d : Bd) (i : Nat) (hi : i < d.l.length) (hr : d.isReady i = true) : (go act c d i).d.waits < d.waits ∧ (go act c d i).d.l = d.l ∧ (go act c d i).d.fs = d.fs := by
 have hw := ready_waits hr
 have hset : ∀ s : St,s.isWaits = false → (d.set i s).waits < d.waits := fun s hs => by
  refine many_less (i := i) hi (by rw [hw];rfl) ?_ fun k hk => ?_
  ·show (setS d.st i s i).isWaits = false
   rw [setS_same];exact hs
  ·have hk' : (setS d.st i s k).isWaits = true := hk
   by_cases e : k = i
   ·rw [e,hw];rfl
   ·rwa [setS_other e] at hk'
 have hfail : ∀ e,(d.fail i e).waits < d.waits := fun e => by
  refine many_less (i := i) hi (by rw [hw];rfl) ?_ fun k hk => ?_
  ·show (spread d.l (setS d.st i (.failed e)) i).isWaits = false
   rw [spread_keeps (by rw [setS_same];rfl),setS_same];rfl
  ·have hk' := (spread_waits (show (spread d.l (setS d.st i (.failed e)) k).isWaits = true from hk)).1
   by_cases e : k = i
   ·rw [e,hw];rfl
   ·rwa [setS_other e] at hk'
 unfold go
 split
 ·exact ⟨hfail _,rfl,rfl⟩
 ·split
  ·exact ⟨hset _ rfl,rfl,rfl⟩
  ·split
   ·exact ⟨hset _ rfl,rfl,rfl⟩
   ·exact ⟨hfail _,rfl,rfl⟩
theorem run_ready (act : Act) (c : Ca) (d : Bd) (i : Nat) (hi : i < d.l.length) (hr : d.isReady i = true) : run act c d i = go act c d i := by
 have hw := ready_waits hr
 unfold run runN
 rw [if_neg (by omega),if_neg (by simp [hw,St.isNo]),if_neg (by simp [hw,St.isWaits]),if_neg (by simp [hr])]
 simp
noncomputable def allF (act : Act) : Nat → Ca → Bd → Bd × Ca
 | 0,c,d => (d,c)
 | f + 1,c,d =>
  match d.ready with
  | [] => (d,c)
  | i :: _ => allF act f (go act c d i).c (go act c d i).d
noncomputable def all (act : Act) (c : Ca) (d : Bd) : Bd × Ca := allF act (d.waits + 1) c d
theorem allF_enough (act : Act) : ∀ (f f' : Nat) (c : Ca) (d : Bd),d.waits < f → d.waits < f' → allF act f c d = allF act f' c d
 | 0,_,_,_,h,_ => by omega
 | _,0,_,_,_,h => by omega
 | f + 1,f' + 1,c,d,h,h' => by
  unfold allF
  cases hr : d.ready with
  | nil => rfl
  | cons i r =>
   have hm := mem_ready.1 (show i ∈ d.ready by rw [hr];simp)
   have := (go_less act c d i hm.1 hm.2).1
   exact allF_enough act f f' _ _ (by omega) (by omega)
theorem all_nil (act : Act) (c : Ca) (d : Bd) (h : d.ready = []) : all act c d = (d,c) := by
 unfold all allF
 rw [h]
theorem all_cons (act : Act) (c : Ca) (d : Bd) {i : Nat} {r : List Nat} (h : d.ready = i :: r) : all act c d = all act (go act c d i).c (go act c d i).d := by
 have hm := mem_ready.1 (show i ∈ d.ready by rw [h];simp)
 have := (go_less act c d i hm.1 hm.2).1
 conv => lhs;unfold all allF
 rw [h]
 exact allF_enough act _ _ _ _ (by omega) (by omega)
end Bf
end Go.Proofs.YthchjnopgagilaaGreatDoor
namespace Go.Proofs.YthchjnopgagilaaGreatDoor
namespace Bf
structure Fit (d : Bd) : Prop where
 files : ∀ f ∈ d.fs,f.2.length ≤ 2000
 outs : ∀ k,(d.st k).out.length ≤ 2000
 whys : ∀ k,(d.st k).why ≤ 12
def CFit : Ca → Prop
 | none => True
 | some (m,l) => 1 ≤ m ∧ m ≤ 100 ∧ Cf.Ok m l ∧ ∀ e ∈ l,e.2.length ≤ 2000
def ActFit (act : Act) : Prop := ∀ k w xs,(act k w xs).2 ≤ 12 ∧ ((act k w xs).2 = 0 → (act k w xs).1.length ≤ 2000)
theorem get_mem {fs : Tf.Fs} {p b : List UInt8} (h : Tf.get fs p = some b) : (p,b) ∈ fs := by
 unfold Tf.get at h
 cases hf : fs.find? fun f => f.1 == p with
 | none => rw [hf] at h;cases h
 | some e =>
  rw [hf] at h
  have h1 := List.find?_some hf
  have h2 := List.mem_of_find?_eq_some hf
  have e1 : e.1 = p := by simpa using h1
  have e2 : e.2 = b := by simpa using h
  rw [← e1,← e2]
  exact h2
theorem Fit.bytes {d : Bd} (h : Fit d) {x b : List UInt8} (hb : d.bytes x = some b) : b.length ≤ 2000 := by
 unfold Bd.bytes at hb
 split at hb
 ·rename_i j _
  rw [← Option.some.inj hb]
  exact h.outs j
 ·exact h.files _ (get_mem hb)
theorem Fit.ins {d : Bd} (h : Fit d) {i : Nat} {xs : List (List UInt8)} (hx : d.ins i = some xs) : xs.length = (d.rule i).ins.length ∧ ∀ x ∈ xs,x.length ≤ 2000 :=
 ⟨inB_len hx,fun x hxm => by
  obtain ⟨y,_,hy⟩ := inB_mem hx x hxm
  exact h.bytes hy⟩
theorem Fit.set {d : Bd} (h : Fit d) (i : Nat) {s : St} (hs : s.out.length ≤ 2000) (hw : s.why ≤ 12) : Fit (d.set i s) :=
 ⟨h.files,fun k => by
  show (setS d.st i s k).out.length ≤ 2000
  unfold setS
  split
  ·exact hs
  ·exact h.outs k,fun k => by
  show (setS d.st i s k).why ≤ 12
  unfold setS
  split
  ·exact hw
  ·exact h.whys k⟩
theorem Fit.fail {d : Bd} (h : Fit d) (i : Nat) {c : Nat} (hc : c ≤ 12) : Fit (d.fail i c) :=
 ⟨h.files,fun k => by
  show (spread d.l (setS d.st i (.failed c)) k).out.length ≤ 2000
  unfold spread
  split
  ·simp [St.out]
  ·unfold setS
   split
   ·simp [St.out]
   ·exact h.outs k,fun k => by
  show (spread d.l (setS d.st i (.failed c)) k).why ≤ 12
  unfold spread
  split
  ·simp [St.why]
  ·unfold setS
   split
   ·simpa [St.why] using hc
   ·exact h.whys k⟩
theorem CFit.find {c : Ca} (h : CFit c) {k b : List UInt8} (hf : cfind c k = some b) : b.length ≤ 2000 := by
 match c,h,hf with
 | some (m,l),h,hf => exact h.2.2.2 _ (Cf.find_some hf)
theorem mem_put {m : Nat} {l : Cf.Ens} {k b : List UInt8} {e : Cf.En} (h : e ∈ Cf.put m l k b) : e ∈ l ∨ e = (k,b) := by
 have h1 : e ∈ Cf.rm l k ++ [(k,b)] := by
  unfold Cf.put Cf.cut at h
  split at h
  ·exact (List.drop_sublist 1 _).subset h
  ·exact h
 rcases List.mem_append.1 h1 with h2 | h2
 ·exact .inl (Cf.mem_rm.1 h2).1
 ·exact .inr (List.mem_singleton.1 h2)
theorem CFit.put {c : Ca} (h : CFit c) (k : List UInt8) {b : List UInt8} (hb : b.length ≤ 2000) : CFit (cput c k b) := by
 match c,h with
 | none,_ => trivial
 | some (m,l),h =>
  refine ⟨h.1,h.2.1,h.2.2.1.put k b,fun e he => ?_⟩
  rcases mem_put he with h1 | h1
  ·exact h.2.2.2 e h1
  ·rw [h1];exact hb
theorem CFit.get {c : Ca} (h : CFit c) (k : List UInt8) : CFit (cget c k) := by
 match c,h with
 | none,_ => trivial
 | some (m,l),h =>
  refine ⟨h.1,h.2.1,h.2.2.1.get k,fun e he => ?_⟩
  have he' : e ∈ Cf.get m l k := he
  unfold Cf.get at he'
  split at he'
  ·rename_i b hb
   rcases mem_put he' with h1 | h1
   ·exact h.2.2.2 e h1
   ·rw [h1];exact h.2.2.2 _ (Cf.find_some hb)
  ·exact h.2.2.2 e he'
theorem go_fit {act : Act} (ha : ActFit act) {c : Ca} {d : Bd} (hc : CFit c) (hd : Fit d) (i : Nat) : Fit (go act c d i).d ∧ CFit (go act c d i).c := by
 unfold go
 split
 ·exact ⟨hd.fail _ (by omega),hc⟩
 ·split
  ·rename_i s hs
   exact ⟨hd.set _ (hc.find hs) (by simp [St.why]),hc.get _⟩
  ·split
   ·rename_i h0
    exact ⟨hd.set _ ((ha _ _ _).2 h0) (by simp [St.why]),hc.put _ ((ha _ _ _).2 h0)⟩
   ·exact ⟨hd.fail _ (ha _ _ _).1,hc⟩
end Bf
end Go.Proofs.YthchjnopgagilaaGreatDoor
