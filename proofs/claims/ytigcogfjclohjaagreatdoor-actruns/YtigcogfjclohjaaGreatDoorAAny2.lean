/- Package act's Check and Run, at whatever command. -/
import Derived.Test.YtigcogfjclohjaaGreatDoorMR5
namespace Go.Proofs.YtigcogfjclohjaaGreatDoor
open Go.RowKit Go.Shelf Go.Lib
open Go.Sort (grow Holds putRow)
open Af (Kd)

theorem one_of {l : List (List UInt8)} (h : l.length = 1) : ∃ x, l = [x] := by
  match l, h with
  | [x], _ => exact ⟨x, rfl⟩
theorem join_len (wd : List UInt8) : ∀ (ls : List (List UInt8)), (Lib.join ls wd).length ≤ (ls.map List.length).sum + ls.length * wd.length
  | [] => by simp [Lib.join]
  | [x] => by rw [Lib.join_one]; simp
  | x :: y :: r => by
    have ih := join_len wd (y :: r)
    rw [Lib.join_cons] at ih ⊢
    simp only [Lib.joinTail, List.map_cons, List.flatten_cons, List.length_append, List.sum_cons, List.length_cons] at ih ⊢
    simp only [Nat.add_mul, Nat.one_mul] at ih ⊢
    omega

theorem ofOne_run {w : World} (i f : Nat) (wd x out : List UInt8) (pa : Option Addr) (cap : Nat) (hrow : TRow w (.slice pa [x].length cap) [x]) (W : World) (hW : Below w.heap.size w W) (hO : Objs W (w.heap.size + 1)) (hi : (kindsO (w.heap.size + 1))[i]? = some (.cells #[fn f] 159 (0, 0)))
    (ef : ∀ args w, (callFunc f args).run Tryz.prog w = .ok (.enter f args) w)
    (HF : ∀ V, Below w.heap.size w V → Calls Tryz.prog f #[.string (ba wd), .string (ba x)] V fun e w' => e = .returned (.string (ba out)) ∧ Below V.heap.size V w') :
    Calls Tryz.prog 142 #[.string (ba wd), .slice pa [x].length cap, .pointer (some ⟨w.heap.size + 1 + 1 + i, 0, none⟩)] W fun e w' => e = .returned (.string (ba out)) ∧ Below W.heap.size W w' := by
  obtain ⟨g, rfl, _, hc, hg⟩ := trow_one hrow hW
  have hb := objs_cell (i := i) (j := 0) hO hi rfl
  refine ofOne_calls (ba wd) _ x f (w.heap.size + 1 + 1 + i) g 1 cap W hb hc ?_ hg (by omega) ef (hid1 fun V hV => HF V (below_then hW hV))
  have hlt := (List.getElem?_eq_some_iff.1 hi).1
  exact (Array.getElem?_eq_some_iff.1 (hO i hlt)).1

theorem run_calls {w : World} {es el : Value} (hA : AW w es el) (wd : List UInt8) (hl : wd.length ≤ 100) (pa : Option Addr) (cap : Nat) (ls : List (List UInt8)) (hrow : TRow w (.slice pa ls.length cap) ls) (hx : ∀ x ∈ ls, x.length ≤ 3000) (k : Kd) (h1 : k.least ≤ ls.length) (h2 : ls.length ≤ k.most) (htk : k.takes wd = true)
    (W : World) (hW : Below w.heap.size w W) (hO : Objs W (w.heap.size + 1)) :
    Calls Tryz.prog (Af.rf k) (#[.string (ba wd), .slice pa ls.length cap] ++ Af.rc (w.heap.size + 1) k) W fun e w' => e = .returned (.string (ba (k.out wd ls))) ∧ Below W.heap.size W w' := by
  obtain ⟨m, hm⟩ := hA.len
  have hbig := hA.big
  have hx' : ∀ x ∈ ls, x.length ≤ 100000 := fun x h => Nat.le_trans (hx x h) (by omega)
  have hm8 : k.most ≤ 8 := by cases k <;> decide
  have h8 : ls.length ≤ 8 := by omega
  cases k
  · exact kwrite_calls (ba wd) _ W
  · refine kjoin_calls wd _ ls (by omega) ?_ W (hrow.below hW)
    have a1 := join_len wd ls
    have a2 := bytes_le hx' ls.length (Nat.le_refl _)
    rw [List.take_length] at a2
    have a3 : ls.length * wd.length ≤ 8 * 100 := Nat.mul_le_mul h8 hl
    unfold Af.bytes at a2
    omega
  · obtain ⟨x, rfl⟩ := one_of (l := ls) (by simp [Af.Kd.least, Af.Kd.most] at h1 h2; omega)
    have hxx := hx x (by simp)
    exact ofOne_run 2 104 wd x (Af.upper x) pa cap hrow W hW hO rfl (enters_of Tryz.func104 (by kernel_rfl) rfl) fun V _ => kupper_calls (ba wd) x (by omega) V
  · obtain ⟨x, rfl⟩ := one_of (l := ls) (by simp [Af.Kd.least, Af.Kd.most] at h1 h2; omega)
    have hxx := hx x (by simp)
    exact ofOne_run 3 106 wd x _ pa cap hrow W hW hO rfl (enters_of Tryz.func106 (by kernel_rfl) rfl) fun V hV => linesWith_calls wd x (by omega) m V (cell_below' hm hV) (by have := hV.size; omega)
  · have hlen : (Af.told (Af.all ls)).length ≤ 100000000 := by
      refine Nat.le_trans (Af.told_all_len ls) ?_
      have : ∀ (l : List (List UInt8)), (∀ x ∈ l, x.length ≤ 3000) → (l.map fun x => x.length + 1).sum ≤ l.length * 3001 := fun l => by
        induction l with
        | nil => simp
        | cons x r ih =>
          intro h
          have i1 := ih fun y hy => h y (by simp [hy])
          have i2 := h x (by simp)
          simp only [List.map_cons, List.sum_cons, List.length_cons]
          omega
      have := this ls hx
      omega
    exact sorted_calls wd _ ls (by omega) hx' hlen m W (hrow.below hW) (cell_below' hm hW)
  · exact kcount_calls (ba wd) _ ls (by omega) hx' m W (hrow.below hW) (cell_below' hm hW) (pow_below hA.pow hW)
  · obtain ⟨x, rfl⟩ := one_of (l := ls) (by simp [Af.Kd.least, Af.Kd.most] at h1 h2; omega)
    have hxx := hx x (by simp)
    have ha : 1 ≤ (Lib.cut wd [61]).1.length := by
      have ht : Af.isSwap wd = true := htk
      unfold Af.isSwap at ht
      cases hc : (Lib.cut wd [61]).1 with
      | nil => rw [hc] at ht; simp at ht
      | cons a b => simp
    exact ofOne_run 8 111 wd x _ pa cap hrow W hW hO rfl (enters_of Tryz.func111 (by kernel_rfl) rfl) fun V hV => swap_calls wd x (by omega) (by omega) ha m V (cell_below' hm hV)
  · obtain ⟨x, rfl⟩ := one_of (l := ls) (by simp [Af.Kd.least, Af.Kd.most] at h1 h2; omega)
    have hxx := hx x (by simp)
    obtain ⟨n, hn⟩ : ∃ n, numM 3 wd = some n := Option.isSome_iff_exists.1 htk
    have e : Kd.head.out wd [x] = Af.told ((Af.lines x).take n) := by simp [Af.Kd.out, hn]
    rw [e]
    exact ofOne_run 9 113 wd x _ pa cap hrow W hW hO rfl (enters_of Tryz.func113 (by kernel_rfl) rfl) fun V hV => head_calls wd x n hn (by omega) m V (cell_below' hm hV) (pow_below hA.pow hV)

/-- The errors that commands tell, by their numbers. -/
structure AE (w : World) (er : Nat → Value) : Prop where
  aw : AW w (er 3) (er 10)
  syn : SynAt w
  kind : w.cell? ⟨6, 0, none⟩ = some (er 5)
  iface : ∀ k, ∃ t u, er (k + 1) = .iface t u
  zero : er 0 = .nilIface

/-- What find tells. -/
theorem find_any {w : World} {er : Nat → Value} (h : AE w er) (nm wd : List UInt8) (n : Int) (hl : wd.length ≤ 1000000) :
    (Af.actE nm wd n = 0 ∧ ∃ k : Kd, Af.kindOf nm = some k ∧ (k.least : Int) ≤ n ∧ n ≤ k.most ∧ k.takes wd = true ∧ wd.length ≤ 100 ∧
      Calls Tryz.prog 54 #[.string (ba nm), .string (ba wd), .int .i64 n] w fun e w' => e = .returned (.tuple #[kd k.least k.most (tfn (Af.tf k) (Af.tc (w.heap.size + 1) k)) (tfn (Af.rf k) (Af.rc (w.heap.size + 1) k)), .nilIface]) ∧ Below w.heap.size w w' ∧ Objs w' (w.heap.size + 1)) ∨
    (Af.actE nm wd n ≠ 0 ∧ Calls Tryz.prog 54 #[.string (ba nm), .string (ba wd), .int .i64 n] w fun e w' => e = .returned (.tuple #[zkd, er (Af.actE nm wd n)]) ∧ Below w.heap.size w w') := by
  have hA := h.aw
  have hbig := hA.big
  cases hk : Af.kindOf nm with
  | none =>
    refine .inr ⟨by simp [Af.actE, hk], ?_⟩
    have e : Af.actE nm wd n = 5 := by simp [Af.actE, hk]
    rw [e]
    exact find_none (ba nm) (ba wd) n (er 5) w h.kind (by omega) fun B => found_none hk B
  | some k =>
    have hnm := Af.kindOf_some hk
    have hf := found k (w.heap.size + 1)
    rw [← hnm] at hf
    have HT := hid1 fun W hW hO => takes_calls hA h.syn wd hl k W hW hO
    have e : Af.actE nm wd n = (if n < k.least ∨ (k.most : Int) < n ∨ k.takes wd = false then 3 else if 100 < wd.length then 10 else 0) := by simp [Af.actE, hk]
    rw [e]
    by_cases h1 : n < k.least
    · rw [if_pos (.inl h1)]
      refine .inr ⟨by decide, ?_⟩
      exact (find_low (ba nm) (ba wd) n k.least k.most _ _ _ _ (k.takes wd) (er 3) (er 10) w hA.shape hA.long hA.big _ hf (tf_enters k) HT h1).mono fun e w' ⟨p, q, _⟩ => ⟨p, q⟩
    by_cases h2 : (k.most : Int) < n
    · rw [if_pos (.inr (.inl h2))]
      refine .inr ⟨by decide, ?_⟩
      exact (find_high (ba nm) (ba wd) n k.least k.most _ _ _ _ (k.takes wd) (er 3) (er 10) w hA.shape hA.long hA.big _ hf (tf_enters k) HT ⟨by omega, h2⟩).mono fun e w' ⟨p, q, _⟩ => ⟨p, q⟩
    cases h3 : k.takes wd with
    | false =>
      rw [if_pos (.inr (.inr rfl))]
      refine .inr ⟨by decide, ?_⟩
      exact (find_no (ba nm) (ba wd) n k.least k.most _ _ _ _ (k.takes wd) (er 3) (er 10) w hA.shape hA.long hA.big _ hf (tf_enters k) HT ⟨by omega, by omega, h3⟩).mono fun e w' ⟨p, q, _⟩ => ⟨p, q⟩
    | true =>
      have hno : ¬ (n < k.least ∨ (k.most : Int) < n ∨ true = false) := by simp; omega
      rw [if_neg hno]
      by_cases h4 : 100 < wd.length
      · rw [if_pos h4]
        refine .inr ⟨by decide, ?_⟩
        exact (find_long (ba nm) (ba wd) n k.least k.most _ _ _ _ (k.takes wd) (er 3) (er 10) w hA.shape hA.long hA.big _ hf (tf_enters k) HT ⟨by omega, by omega, h3, by rw [ba_size]; exact h4⟩).mono fun e w' ⟨p, q, _⟩ => ⟨p, q⟩
      · rw [if_neg h4]
        refine .inl ⟨rfl, k, rfl, by omega, by omega, h3, by omega, ?_⟩
        exact find_good (ba nm) (ba wd) n k.least k.most _ _ _ _ (k.takes wd) (er 3) (er 10) w hA.shape hA.long hA.big _ hf (tf_enters k) HT ⟨by omega, by omega, h3, by rw [ba_size]; omega⟩

theorem Check_any {w : World} {er : Nat → Value} (h : AE w er) (nm wd : List UInt8) (n : Int) (hl : wd.length ≤ 1000000) :
    Calls Tryz.prog 35 #[.string (ba nm), .string (ba wd), .int .i64 n] w fun e w' => e = .returned (er (Af.actE nm wd n)) ∧ Below w.heap.size w w' := by
  rcases find_any h nm wd n hl with ⟨e0, k, _, _, _, _, _, hf⟩ | ⟨_, hf⟩
  · rw [e0, h.zero]
    exact Check_calls (ba nm) (ba wd) n _ _ _ _ .nilIface w rfl rfl (hid1 (hf.mono fun e w' ⟨p, q, _⟩ => ⟨p, q⟩))
  · exact Check_calls (ba nm) (ba wd) n 0 0 .nilFunc .nilFunc _ w rfl rfl (hid1 hf)

/-- What a command makes, and its error. -/
def Af.actO (nm wd : List UInt8) (ls : List (List UInt8)) : List UInt8 × Nat :=
  if Af.actE nm wd ls.length = 0 then
    (match Af.kindOf nm with
     | some k => if 2000 < (k.out wd ls).length then ([], 10) else (k.out wd ls, 0)
     | none => ([], 5))
  else ([], Af.actE nm wd ls.length)

theorem Run_any {w : World} {er : Nat → Value} (h : AE w er) (nm wd : List UInt8) (hl : wd.length ≤ 1000000) (v : Value) (ls : List (List UInt8)) (hrow : TRow w v ls) (hx : ∀ x ∈ ls, x.length ≤ 3000) :
    Calls Tryz.prog 28 #[.string (ba nm), .string (ba wd), v] w fun e w' => e = .returned (.tuple #[.string (ba (Af.actO nm wd ls).1), er (Af.actO nm wd ls).2]) ∧ Below w.heap.size w w' := by
  obtain ⟨pa, cap, rfl, hcap, hin⟩ := hrow
  have hrow : TRow w (.slice pa ls.length cap) ls := ⟨pa, cap, rfl, hcap, hin⟩
  rcases find_any h nm wd ls.length hl with ⟨e0, k, hk, h1, h2, h3, h4, hf⟩ | ⟨e0, hf⟩
  · have eO : Af.actO nm wd ls = if 2000 < (k.out wd ls).length then ([], 10) else (k.out wd ls, 0) := by
      unfold Af.actO
      rw [if_pos e0, hk]
    have := Run_good (ba nm) (ba wd) pa ls.length cap k.least k.most _ (Af.rf k) (Af.rc (w.heap.size + 1) k) (ba (k.out wd ls)) (er 10) w h.aw.long h.aw.big ⟨_, _, rfl⟩ (rf_enters k) (hid1 hf)
      (hid1 fun W hW hO => run_calls h.aw wd h4 pa cap ls hrow hx k (by omega) (by omega) h3 W hW hO)
    refine this.mono ?_
    rintro e w' ⟨rfl, g⟩
    refine ⟨?_, g⟩
    rw [eO, ba_size]
    split
    · rfl
    · rw [h.zero]
  · have eO : Af.actO nm wd ls = ([], Af.actE nm wd ls.length) := by
      unfold Af.actO
      rw [if_neg e0]
    rw [eO]
    obtain ⟨c, hc⟩ : ∃ c, Af.actE nm wd ls.length = c + 1 := ⟨Af.actE nm wd ls.length - 1, by omega⟩
    obtain ⟨t, u, hu⟩ := h.iface c
    simp only [hc, hu] at hf ⊢
    exact Run_bad (ba nm) (ba wd) pa ls.length cap t u w (hid1 hf)
end Go.Proofs.YtigcogfjclohjaaGreatDoor
