import Derived.Test.YtbgkfmodbofalaaGreatDoorPL17
import Derived.Test.YtbgkfmodbofalaaGreatDoorPL15
import Derived.Test.YtbgkfmodbofalaaGreatDoorPL10
import Derived.Test.YtbgkfmodbofalaaGreatDoorPL07
import Derived.Test.YtbgkfmodbofalaaGreatDoorChecked
import Derived.WalkKit
import Derived.LaidEql
import Derived.Stop.Asserts
import Derived.RowKitTokens
import Derived.Below
namespace Go.Proofs.YtbgkfmodbofalaaGreatDoor
open Go.RowKit Go.Shelf Go.Lib
open Go.Sort (grow Holds putRow)
open Af (Kd)
theorem one_of {l : List (List UInt8)} (h : l.length = 1) : ∃ x, l = [x] := by
  match l, h with
  | [x], _ => exact ⟨x, rfl⟩
theorem join_len (wd : List UInt8) : ∀ (ls : List (List UInt8)), (Lib.join ls wd).length ≤ (ls.map List.length).sum + ls.length * wd.length
  | [] => by simp [Lib.join]
  | [x] => by rw [Lib.join_one]; simp
  | x :: y :: r => by
    have ih := join_len wd (y :: r)
    rw [Lib.join_cons] at ih ⊢
    simp only [Lib.joinTail, List.map_cons, List.flatten_cons, List.length_append, List.sum_cons, List.length_cons] at ih ⊢
    simp only [Nat.add_mul, Nat.one_mul] at ih ⊢
    omega
theorem ofOne_run {w : World} (i f : Nat) (wd x out : List UInt8) (pa : Option Addr) (cap : Nat) (hrow : TRow w (.slice pa [x].length cap) [x]) (W : World) (hW : Below w.heap.size w W) (hO : Objs W (w.heap.size + 1)) (hi : (kindsO (w.heap.size + 1))[i]? = some (.cells #[fn f] 302 (0, 0)))
    (ef : ∀ args w, (callFunc f args).run Tryz.prog w = .ok (.enter f args) w)
    (HF : ∀ V, Below w.heap.size w V → Calls Tryz.prog f #[.string (ba wd), .string (ba x)] V fun e w' => e = .returned (.string (ba out)) ∧ Below V.heap.size V w') :
    Calls Tryz.prog 292 #[.string (ba wd), .slice pa [x].length cap, .pointer (some ⟨w.heap.size + 1 + 1 + i, 0, none⟩)] W fun e w' => e = .returned (.string (ba out)) ∧ Below W.heap.size W w' := by
  obtain ⟨g, rfl, _, hc, hg⟩ := trow_one hrow hW
  have hb := objs_cell (i := i) (j := 0) hO hi rfl
  refine ofOne_calls (ba wd) _ x f (w.heap.size + 1 + 1 + i) g 1 cap W hb hc ?_ hg (by omega) ef (hid1 fun V hV => HF V (below_then hW hV))
  have hlt := (List.getElem?_eq_some_iff.1 hi).1
  exact (Array.getElem?_eq_some_iff.1 (hO i hlt)).1
theorem run_calls {w : World} {es el : Value} (hA : AW w es el) (wd : List UInt8) (hl : wd.length ≤ 100) (pa : Option Addr) (cap : Nat) (ls : List (List UInt8)) (hrow : TRow w (.slice pa ls.length cap) ls) (hx : ∀ x ∈ ls, x.length ≤ 3000) (k : Kd) (h1 : k.least ≤ ls.length) (h2 : ls.length ≤ k.most) (htk : k.takes wd = true)
    (W : World) (hW : Below w.heap.size w W) (hO : Objs W (w.heap.size + 1)) :
    Calls Tryz.prog (Af.rf k) (#[.string (ba wd), .slice pa ls.length cap] ++ Af.rc (w.heap.size + 1) k) W fun e w' => e = .returned (.string (ba (k.out wd ls))) ∧ Below W.heap.size W w' := by
  obtain ⟨m, hm⟩ := hA.len
  have hbig := hA.big
  have hx' : ∀ x ∈ ls, x.length ≤ 100000 := fun x h => Nat.le_trans (hx x h) (by omega)
  have hm8 : k.most ≤ 8 := by cases k <;> decide
  have h8 : ls.length ≤ 8 := by omega
  cases k
  · exact kwrite_calls (ba wd) _ W
  · refine kjoin_calls wd _ ls (by omega) ?_ W (hrow.below hW)
    have a1 := join_len wd ls
    have a2 := bytes_le hx' ls.length (Nat.le_refl _)
    rw [List.take_length] at a2
    have a3 : ls.length * wd.length ≤ 8 * 100 := Nat.mul_le_mul h8 hl
    unfold Af.bytes at a2
    omega
  · obtain ⟨x, rfl⟩ := one_of (l := ls) (by simp [Af.Kd.least, Af.Kd.most] at h1 h2; omega)
    have hxx := hx x (by simp)
    exact ofOne_run 2 225 wd x (Af.upper x) pa cap hrow W hW hO rfl (enters_of Tryz.func225 (by kernel_rfl) rfl) fun V _ => kupper_calls (ba wd) x (by omega) V
  · obtain ⟨x, rfl⟩ := one_of (l := ls) (by simp [Af.Kd.least, Af.Kd.most] at h1 h2; omega)
    have hxx := hx x (by simp)
    exact ofOne_run 3 227 wd x _ pa cap hrow W hW hO rfl (enters_of Tryz.func227 (by kernel_rfl) rfl) fun V hV => linesWith_calls wd x (by omega) m V (cell_below' hm hV) (by have := hV.size; omega)
  · have hlen : (Af.told (Af.all ls)).length ≤ 100000000 := by
      refine Nat.le_trans (Af.told_all_len ls) ?_
      have : ∀ (l : List (List UInt8)), (∀ x ∈ l, x.length ≤ 3000) → (l.map fun x => x.length + 1).sum ≤ l.length * 3001 := fun l => by
        induction l with
        | nil => simp
        | cons x r ih =>
          intro h
          have i1 := ih fun y hy => h y (by simp [hy])
          have i2 := h x (by simp)
          simp only [List.map_cons, List.sum_cons, List.length_cons]
          omega
      have := this ls hx
      omega
    exact sorted_calls wd _ ls (by omega) hx' hlen m W (hrow.below hW) (cell_below' hm hW)
  · exact kcount_calls (ba wd) _ ls (by omega) hx' m W (hrow.below hW) (cell_below' hm hW) (pow_below hA.pow hW)
  · obtain ⟨x, rfl⟩ := one_of (l := ls) (by simp [Af.Kd.least, Af.Kd.most] at h1 h2; omega)
    have hxx := hx x (by simp)
    have ha : 1 ≤ (Lib.cut wd [61]).1.length := by
      have ht : Af.isSwap wd = true := htk
      unfold Af.isSwap at ht
      cases hc : (Lib.cut wd [61]).1 with
      | nil => rw [hc] at ht; simp at ht
      | cons a b => simp
    exact ofOne_run 8 232 wd x _ pa cap hrow W hW hO rfl (enters_of Tryz.func232 (by kernel_rfl) rfl) fun V hV => swap_calls wd x (by omega) (by omega) ha m V (cell_below' hm hV)
  · obtain ⟨x, rfl⟩ := one_of (l := ls) (by simp [Af.Kd.least, Af.Kd.most] at h1 h2; omega)
    have hxx := hx x (by simp)
    obtain ⟨n, hn⟩ : ∃ n, numM 3 wd = some n := Option.isSome_iff_exists.1 htk
    have e : Kd.head.out wd [x] = Af.told ((Af.lines x).take n) := by simp [Af.Kd.out, hn]
    rw [e]
    exact ofOne_run 9 234 wd x _ pa cap hrow W hW hO rfl (enters_of Tryz.func234 (by kernel_rfl) rfl) fun V hV => head_calls wd x n hn (by omega) m V (cell_below' hm hV) (pow_below hA.pow hV)
structure AE (w : World) (er : Nat → Value) : Prop where
  aw : AW w (er 3) (er 10)
  syn : SynAt w
  kind : w.cell? ⟨8, 0, none⟩ = some (er 5)
  iface : ∀ k, ∃ t u, er (k + 1) = .iface t u
  zero : er 0 = .nilIface
theorem find_any {w : World} {er : Nat → Value} (h : AE w er) (nm wd : List UInt8) (n : Int) (hl : wd.length ≤ 1000000) :
    (Af.actE nm wd n = 0 ∧ ∃ k : Kd, Af.kindOf nm = some k ∧ (k.least : Int) ≤ n ∧ n ≤ k.most ∧ k.takes wd = true ∧ wd.length ≤ 100 ∧
      Calls Tryz.prog 111 #[.string (ba nm), .string (ba wd), .int .i64 n] w fun e w' => e = .returned (.tuple #[kd k.least k.most (tfn (Af.tf k) (Af.tc (w.heap.size + 1) k)) (tfn (Af.rf k) (Af.rc (w.heap.size + 1) k)), .nilIface]) ∧ Below w.heap.size w w' ∧ Objs w' (w.heap.size + 1)) ∨
    (Af.actE nm wd n ≠ 0 ∧ Calls Tryz.prog 111 #[.string (ba nm), .string (ba wd), .int .i64 n] w fun e w' => e = .returned (.tuple #[zkd, er (Af.actE nm wd n)]) ∧ Below w.heap.size w w') := by
  have hA := h.aw
  have hbig := hA.big
  cases hk : Af.kindOf nm with
  | none =>
    refine .inr ⟨by simp [Af.actE, hk], ?_⟩
    have e : Af.actE nm wd n = 5 := by simp [Af.actE, hk]
    rw [e]
    exact find_none (ba nm) (ba wd) n (er 5) w h.kind (by omega) fun B => found_none hk B
  | some k =>
    have hnm := Af.kindOf_some hk
    have hf := found k (w.heap.size + 1)
    rw [← hnm] at hf
    have HT := hid1 fun W hW hO => takes_calls hA h.syn wd hl k W hW hO
    have e : Af.actE nm wd n = (if n < k.least ∨ (k.most : Int) < n ∨ k.takes wd = false then 3 else if 100 < wd.length then 10 else 0) := by simp [Af.actE, hk]
    rw [e]
    by_cases h1 : n < k.least
    · rw [if_pos (.inl h1)]
      refine .inr ⟨by decide, ?_⟩
      exact (find_low (ba nm) (ba wd) n k.least k.most _ _ _ _ (k.takes wd) (er 3) (er 10) w hA.shape hA.long hA.big _ hf (tf_enters k) HT h1).mono fun e w' ⟨p, q, _⟩ => ⟨p, q⟩
    by_cases h2 : (k.most : Int) < n
    · rw [if_pos (.inr (.inl h2))]
      refine .inr ⟨by decide, ?_⟩
      exact (find_high (ba nm) (ba wd) n k.least k.most _ _ _ _ (k.takes wd) (er 3) (er 10) w hA.shape hA.long hA.big _ hf (tf_enters k) HT ⟨by omega, h2⟩).mono fun e w' ⟨p, q, _⟩ => ⟨p, q⟩
    cases h3 : k.takes wd with
    | false =>
      rw [if_pos (.inr (.inr rfl))]
      refine .inr ⟨by decide, ?_⟩
      exact (find_no (ba nm) (ba wd) n k.least k.most _ _ _ _ (k.takes wd) (er 3) (er 10) w hA.shape hA.long hA.big _ hf (tf_enters k) HT ⟨by omega, by omega, h3⟩).mono fun e w' ⟨p, q, _⟩ => ⟨p, q⟩
    | true =>
      have hno : ¬ (n < k.least ∨ (k.most : Int) < n ∨ true = false) := by simp; omega
      rw [if_neg hno]
      by_cases h4 : 100 < wd.length
      · rw [if_pos h4]
        refine .inr ⟨by decide, ?_⟩
        exact (find_long (ba nm) (ba wd) n k.least k.most _ _ _ _ (k.takes wd) (er 3) (er 10) w hA.shape hA.long hA.big _ hf (tf_enters k) HT ⟨by omega, by omega, h3, by rw [ba_size]; exact h4⟩).mono fun e w' ⟨p, q, _⟩ => ⟨p, q⟩
      · rw [if_neg h4]
        refine .inl ⟨rfl, k, rfl, by omega, by omega, h3, by omega, ?_⟩
        exact find_good (ba nm) (ba wd) n k.least k.most _ _ _ _ (k.takes wd) (er 3) (er 10) w hA.shape hA.long hA.big _ hf (tf_enters k) HT ⟨by omega, by omega, h3, by rw [ba_size]; omega⟩
theorem Check_any {w : World} {er : Nat → Value} (h : AE w er) (nm wd : List UInt8) (n : Int) (hl : wd.length ≤ 1000000) :
    Calls Tryz.prog 38 #[.string (ba nm), .string (ba wd), .int .i64 n] w fun e w' => e = .returned (er (Af.actE nm wd n)) ∧ Below w.heap.size w w' := by
  rcases find_any h nm wd n hl with ⟨e0, k, _, _, _, _, _, hf⟩ | ⟨_, hf⟩
  · rw [e0, h.zero]
    exact Check_calls (ba nm) (ba wd) n _ _ _ _ .nilIface w rfl rfl (hid1 (hf.mono fun e w' ⟨p, q, _⟩ => ⟨p, q⟩))
  · exact Check_calls (ba nm) (ba wd) n 0 0 .nilFunc .nilFunc _ w rfl rfl (hid1 hf)
end Go.Proofs.YtbgkfmodbofalaaGreatDoor
namespace Go.Proofs.YtbgkfmodbofalaaGreatDoor
open Go.RowKit Go.Shelf Go.Lib
set_option maxRecDepth 100000 in
set_option maxHeartbeats 4000000 in
theorem Run_good (nm word : ByteArray) (p : Option Addr) (len cap : Nat) (a b : Int) (tv : Value) (gr : Nat) (cr : Array Value) (out : ByteArray) (el : Value) (w : World)
    (hel : w.cell? ⟨3, 0, none⟩ = some el) (h6 : 20 < w.heap.size) (htv : ∃ g c, tv = tfn g c)
    (eg : ∀ args w, (callFunc gr args).run Tryz.prog w = .ok (.enter gr args) w)
    (hfind : Hid (Calls Tryz.prog 111 #[.string nm, .string word, .int .i64 len] w fun e w' => e = .returned (.tuple #[kd a b tv (tfn gr cr), .nilIface]) ∧ Below w.heap.size w w' ∧ Objs w' (w.heap.size + 1)))
    (HR : Hid (∀ W, Below w.heap.size w W → Objs W (w.heap.size + 1) → Calls Tryz.prog gr (#[.string word, .slice p len cap] ++ cr) W fun e w' => e = .returned (.string out) ∧ Below W.heap.size W w')) :
    Calls Tryz.prog 35 #[.string nm, .string word, .slice p len cap] w fun e w' => e = .returned (if 2000 < out.size then .tuple #[.string ⟨#[]⟩, el] else .tuple #[.string out, .nilIface]) ∧ Below w.heap.size w w' := by
  obtain ⟨g, c, rfl⟩ := htv
  generalize hr : (if 2000 < out.size then Value.tuple #[.string ⟨#[]⟩, el] else .tuple #[.string out, .nilIface]) = r
  have HQ : Hid ((if 2000 < out.size then Value.tuple #[.string ⟨#[]⟩, el] else .tuple #[.string out, .nilIface]) = r) := hr
  clear hr
  have hnf : ∀ (a : Addr) (m : Mode) (W : World), Sem.run Tryz.prog (store a .nilFunc m) W = stored Tryz.prog W a .nilFunc m := fun a m W => run_store _ W a _ m rfl
  have hnt : ∀ (a : Addr) (m : Mode) (W : World), Sem.run Tryz.prog (store a (tfn g c) m) W = stored Tryz.prog W a (tfn g c) m := fun a m W => run_store _ W a _ m rfl
  have hnr : ∀ (a : Addr) (m : Mode) (W : World), Sem.run Tryz.prog (store a (tfn gr cr) m) W = stored Tryz.prog W a (tfn gr cr) m := fun a m W => run_store _ W a _ m rfl
  go_enter Tryz.func35, Tryz.ntmps35
  go_wp2_with fail
  refine hfind.out.mono ?_
  rintro e w2 ⟨rfl, hb2, hO2⟩
  have gC : Below w2.heap.size w2 (w2.alloc (.cells #[.int .i64 a, .int .i64 b, tfn g c, tfn gr cr] 173)) := (Below.refl _ w2).alloc (Nat.le_refl _) _
  have HC := HR.out _ (below_then hb2 gC) (hO2.stays gC)
  go_wp2_with fail
  refine HC.mono ?_
  rintro e w3 ⟨rfl, hb3⟩
  have g3 := below_then (below_then hb2 gC) hb3
  have ke : w3.cell? ⟨3, 0, none⟩ = some el := (cell_below2 g3 (by omega)).trans hel
  clear HC gC hb2 hO2 hb3
  by_cases hl : 2000 < out.size
  · have d3 : decide ((2000 : Int) < (out.size : Int)) = true := by simp; omega
    go_wp2
    go_region
    all_goals go_wp2
    go_ret2
    exact ⟨ret_eq (by rw [← HQ.out, if_pos hl]; rfl), below_draws g3 1⟩
  · have d3 : decide ((2000 : Int) < (out.size : Int)) = false := by simp; omega
    go_wp2
    go_ret2
    exact ⟨ret_eq (by rw [← HQ.out, if_neg hl]; rfl), g3⟩
set_option maxRecDepth 100000 in
set_option maxHeartbeats 4000000 in
theorem Run_bad (nm word : ByteArray) (p : Option Addr) (len cap : Nat) (t : TypeId) (u : Value) (w : World)
    (hfind : Hid (Calls Tryz.prog 111 #[.string nm, .string word, .int .i64 len] w fun e w' => e = .returned (.tuple #[zkd, .iface t u]) ∧ Below w.heap.size w w')) :
    Calls Tryz.prog 35 #[.string nm, .string word, .slice p len cap] w fun e w' => e = .returned (.tuple #[.string ⟨#[]⟩, .iface t u]) ∧ Below w.heap.size w w' := by
  have hnf : ∀ (a : Addr) (m : Mode) (W : World), Sem.run Tryz.prog (store a .nilFunc m) W = stored Tryz.prog W a .nilFunc m := fun a m W => run_store _ W a _ m rfl
  go_enter Tryz.func35, Tryz.ntmps35
  go_wp2_with fail
  refine hfind.out.mono ?_
  rintro e w2 ⟨rfl, hb2⟩
  have g3 := hb2.alloc hb2.size (.cells #[.int .i64 0, .int .i64 0, .nilFunc, .nilFunc] 173)
  go_wp2
  go_ret2
  exact ⟨rfl, g3⟩
end Go.Proofs.YtbgkfmodbofalaaGreatDoor
namespace Go.Proofs.YtbgkfmodbofalaaGreatDoor
open Go.RowKit Go.Shelf Go.Lib
open Go.Sort (grow Holds putRow)
open Af (Kd)
def Af.actO (nm wd : List UInt8) (ls : List (List UInt8)) : List UInt8 × Nat :=
  if Af.actE nm wd ls.length = 0 then
    (match Af.kindOf nm with
     | some k => if 2000 < (k.out wd ls).length then ([], 10) else (k.out wd ls, 0)
     | none => ([], 5))
  else ([], Af.actE nm wd ls.length)
theorem Run_any {w : World} {er : Nat → Value} (h : AE w er) (nm wd : List UInt8) (hl : wd.length ≤ 1000000) (v : Value) (ls : List (List UInt8)) (hrow : TRow w v ls) (hx : ∀ x ∈ ls, x.length ≤ 3000) :
    Calls Tryz.prog 35 #[.string (ba nm), .string (ba wd), v] w fun e w' => e = .returned (.tuple #[.string (ba (Af.actO nm wd ls).1), er (Af.actO nm wd ls).2]) ∧ Below w.heap.size w w' := by
  obtain ⟨pa, cap, rfl, hcap, hin⟩ := hrow
  have hrow : TRow w (.slice pa ls.length cap) ls := ⟨pa, cap, rfl, hcap, hin⟩
  rcases find_any h nm wd ls.length hl with ⟨e0, k, hk, h1, h2, h3, h4, hf⟩ | ⟨e0, hf⟩
  · have eO : Af.actO nm wd ls = if 2000 < (k.out wd ls).length then ([], 10) else (k.out wd ls, 0) := by
      unfold Af.actO
      rw [if_pos e0, hk]
    have := Run_good (ba nm) (ba wd) pa ls.length cap k.least k.most _ (Af.rf k) (Af.rc (w.heap.size + 1) k) (ba (k.out wd ls)) (er 10) w h.aw.long h.aw.big ⟨_, _, rfl⟩ (rf_enters k) (hid1 hf)
      (hid1 fun W hW hO => run_calls h.aw wd h4 pa cap ls hrow hx k (by omega) (by omega) h3 W hW hO)
    refine this.mono ?_
    rintro e w' ⟨rfl, g⟩
    refine ⟨?_, g⟩
    rw [eO, ba_size]
    split
    · rfl
    · rw [h.zero]
  · have eO : Af.actO nm wd ls = ([], Af.actE nm wd ls.length) := by
      unfold Af.actO
      rw [if_neg e0]
    rw [eO]
    obtain ⟨c, hc⟩ : ∃ c, Af.actE nm wd ls.length = c + 1 := ⟨Af.actE nm wd ls.length - 1, by omega⟩
    obtain ⟨t, u, hu⟩ := h.iface c
    simp only [hc, hu] at hf ⊢
    exact Run_bad (ba nm) (ba wd) pa ls.length cap t u w (hid1 hf)
end Go.Proofs.YtbgkfmodbofalaaGreatDoor
namespace Go.Proofs.YtbgkfmodbofalaaGreatDoor
theorem row_newW (W : World) (o : Obj) : (W.alloc o).heap[W.heap.size]? = some o := by
  show (W.heap.push _)[W.heap.size]? = _
  simp
namespace Bf
def want (act : Act) (fs : Tf.Fs) (l : List Ru) : List UInt8 → List UInt8 × Nat := wantF act fs l (l.length + 2)
theorem order_len {l : List Ru} {o : List Nat} (hnd : o.Nodup) (hlt : ∀ i ∈ o, i < l.length) : o.length ≤ l.length := by
  have := Cf.nodup_len (b := List.range l.length) hnd fun i hi => List.mem_range.2 (hlt i hi)
  simpa using this
theorem want_is {act : Act} {fs : Tf.Fs} {l : List Ru} {o : List Nat} (h : Ru.Topo l o) (hnd : o.Nodup) (hlt : ∀ i ∈ o, i < l.length) : Wanted act fs l (inO o) (want act fs l) :=
  wanted_is (fun _ _ hi hn => (rank_of h hi hn).1) (r := fun i => o.idxOf i) (fun _ _ hi hn => (rank_of h hi hn).2) (fun i _ hi => by have : o.idxOf i < o.length := List.idxOf_lt_length_of_mem hi; have := order_len hnd hlt; omega) (by omega)
end Bf
end Go.Proofs.YtbgkfmodbofalaaGreatDoor
namespace Go.Proofs.YtbgkfmodbofalaaGreatDoor
open Go.RowKit Go.Shelf Go.Lib
structure Only (S : Nat → Prop) (w w' : World) : Prop where
  os : w'.os = w.os
  tape : w'.tape = w.tape
  output : w'.output = w.output
  size : w.heap.size ≤ w'.heap.size
  block : ∀ j, j < w.heap.size → ¬ S j → w'.heap[j]? = w.heap[j]?
theorem Only.of {S : Nat → Prop} {w w' : World} (h : Below w.heap.size w w') : Only S w w' := ⟨h.os, h.tape, h.output, h.size, fun j hj _ => h.block j hj⟩
theorem Only.below {S : Nat → Prop} {w w' : World} (h : Only S w w') {B : Nat} (hS : ∀ j, S j → B ≤ j) (hB : B ≤ w.heap.size) : Below B w w' :=
  ⟨h.os, h.tape, h.output, h.size, fun j hj => h.block j (by omega) fun hs => by have := hS j hs; omega⟩
theorem Only.trans {S S' : Nat → Prop} {a b c : World} (h : Only S a b) (h' : Only S' b c) (hS : ∀ j, S' j → S j ∨ a.heap.size ≤ j) : Only S a c :=
  ⟨h'.os.trans h.os, h'.tape.trans h.tape, h'.output.trans h.output, Nat.le_trans h.size h'.size, fun j hj hs => (h'.block j (Nat.lt_of_lt_of_le hj h.size) fun h1 => by
    rcases hS j h1 with h2 | h2
    · exact hs h2
    · omega).trans (h.block j hj hs)⟩
theorem Only.cell {S : Nat → Prop} {w w' : World} (h : Only S w w') {a : Addr} {u : Value} (hc : w.cell? a = some u) (hs : ¬ S a.block) : w'.cell? a = some u :=
  (World.cell?_of_block (h.block a.block (lt_of_cell hc) hs)).trans hc
def enCells (l : Cf.Ens) : List Value := l.flatMap fun e => [Value.string (ba e.1), Value.string (ba e.2)]
theorem enCells_get : ∀ (l : Cf.Ens) (j : Nat) (hj : j < l.length), (enCells l)[j * 2]? = some (.string (ba l[j].1)) ∧ (enCells l)[j * 2 + 1]? = some (.string (ba l[j].2))
  | [], j, hj => by simp at hj
  | x :: t, 0, _ => by simp [enCells]
  | x :: t, j + 1, hj => by
    have := enCells_get t j (by simpa using hj)
    have e : enCells (x :: t) = Value.string (ba x.1) :: Value.string (ba x.2) :: enCells t := by simp [enCells]
    rw [e, show (j + 1) * 2 = j * 2 + 1 + 1 by omega]
    simpa using this
def MERow (w : World) (v : Value) (T : Nat → Prop) (l : Cf.Ens) : Prop :=
  ∃ p cap, v = .slice p l.length cap ∧ l.length ≤ cap ∧ (l ≠ [] → ∃ g o, p = some ⟨g, o, none⟩ ∧ T g ∧ g < w.heap.size ∧ ∀ j (hj : j < l.length), w.cell? ⟨g, o + j * 2, none⟩ = some (.string (ba l[j].1)) ∧ w.cell? ⟨g, o + j * 2 + 1, none⟩ = some (.string (ba l[j].2)))
theorem MERow.same {w w' : World} {v : Value} {T : Nat → Prop} {l : Cf.Ens} (h : MERow w v T l) (hz : w.heap.size ≤ w'.heap.size) (hb : ∀ k, T k → w'.heap[k]? = w.heap[k]?) : MERow w' v T l := by
  obtain ⟨p, cap, e, h0, h1⟩ := h
  refine ⟨p, cap, e, h0, fun hl => ?_⟩
  obtain ⟨g, o, e, hT, hg, hc⟩ := h1 hl
  exact ⟨g, o, e, hT, Nat.lt_of_lt_of_le hg hz, fun j hj => ⟨(World.cell?_of_block (a := ⟨g, o + j * 2, none⟩) (hb g hT)).trans (hc j hj).1, (World.cell?_of_block (a := ⟨g, o + j * 2 + 1, none⟩) (hb g hT)).trans (hc j hj).2⟩⟩
structure MAt (T : Nat → Prop) (W : World) (v : Value) (m : Nat) (l : Cf.Ens) : Prop where
  lies : ∃ mb u, v = .pointer (some ⟨mb, 0, none⟩) ∧ T mb ∧ W.cell? ⟨mb, 0, none⟩ = some (.int .i64 m) ∧ W.cell? ⟨mb, 1, none⟩ = some u ∧ W.frozen? ⟨mb, 1, none⟩ = false ∧ MERow W u (fun k => T k ∧ k ≠ mb) l
  lt : ∀ k, T k → k < W.heap.size
theorem MAt.same {T : Nat → Prop} {W W' : World} {v : Value} {m : Nat} {l : Cf.Ens} (h : MAt T W v m l) (hz : W.heap.size ≤ W'.heap.size) (hb : ∀ k, T k → W'.heap[k]? = W.heap[k]?) : MAt T W' v m l := by
  obtain ⟨mb, u, e, hT, c0, c1, f1, hr⟩ := h.lies
  exact ⟨⟨mb, u, e, hT, (World.cell?_of_block (a := ⟨mb, 0, none⟩) (hb mb hT)).trans c0, (World.cell?_of_block (a := ⟨mb, 1, none⟩) (hb mb hT)).trans c1, (World.frozen?_of_block (a := ⟨mb, 1, none⟩) (hb mb hT)).trans f1, hr.same hz fun k hk => hb k hk.1⟩, fun k hk => Nat.lt_of_lt_of_le (h.lt k hk) hz⟩
theorem MAt.below {T : Nat → Prop} {W W' : World} {v : Value} {m : Nat} {l : Cf.Ens} (h : MAt T W v m l) (hb : Below W.heap.size W W') : MAt T W' v m l := h.same hb.size fun k hk => hb.block k (h.lt k hk)
end Go.Proofs.YtbgkfmodbofalaaGreatDoor
namespace Go.Proofs.YtbgkfmodbofalaaGreatDoor
open Go.RowKit Go.Shelf Go.Lib
theorem MERow.of_owns {w : World} {B : Nat} {v : Value} {l : Cf.Ens} (h : w.ownsRow B 273 2 v l.length (enCells l)) : ∃ p cap, v = .slice p l.length cap ∧ l.length ≤ cap ∧ (l ≠ [] → ∃ g, p = some ⟨g, 0, none⟩ ∧ B ≤ g ∧ g < w.heap.size ∧ ∀ j (hj : j < l.length), w.cell? ⟨g, j * 2, none⟩ = some (.string (ba l[j].1)) ∧ w.cell? ⟨g, j * 2 + 1, none⟩ = some (.string (ba l[j].2))) := by
  rcases h.2 with ⟨rfl, hn⟩ | ⟨g, cap, cur, rfl, hB, hb, h1, _, hcs, h4⟩
  · exact ⟨none, 0, by rw [hn], by omega, fun hl => absurd (List.length_eq_zero_iff.1 hn) hl⟩
  · refine ⟨_, cap, rfl, h1, fun _ => ⟨g, rfl, hB, (Array.getElem?_eq_some_iff.1 hb).1, fun j hj => ?_⟩⟩
    have hg := enCells_get l j hj
    have key : ∀ i, i < l.length * 2 → cur[i]? = (enCells l)[i]? := fun i hi => by
      have := congrArg (fun x => x[i]?) h4
      simp only [List.getElem?_take, hi, if_true, Array.getElem?_toList] at this
      exact this
    refine ⟨?_, ?_⟩
    · simp only [World.cell?, hb]
      simpa using (key (j * 2) (by omega)).trans hg.1
    · simp only [World.cell?, hb]
      simpa using (key (j * 2 + 1) (by omega)).trans hg.2
theorem MAt.stored {T : Nat → Prop} {W w5 : World} {mb m g o n cap : Nat} {l : Cf.Ens} (HT : T mb) (hmb : mb < W.heap.size) (B5 : Below W.heap.size W w5) (c0 : W.cell? ⟨mb, 0, none⟩ = some (.int .i64 m)) (c1 : (W.cell? ⟨mb, 1, none⟩).isSome = true) (f1 : W.frozen? ⟨mb, 1, none⟩ = false)
    (hg : W.heap.size ≤ g) (hg2 : g < w5.heap.size) (hn : n = l.length) (hcap : n ≤ cap) (hc : ∀ j (hj : j < l.length), w5.cell? ⟨g, o + j * 2, none⟩ = some (.string (ba l[j].1)) ∧ w5.cell? ⟨g, o + j * 2 + 1, none⟩ = some (.string (ba l[j].2))) :
    Only T W (w5.setCell ⟨mb, 1, none⟩ (.slice (some ⟨g, o, none⟩) n cap)) ∧ ∃ T', MAt T' (w5.setCell ⟨mb, 1, none⟩ (.slice (some ⟨g, o, none⟩) n cap)) (.pointer (some ⟨mb, 0, none⟩)) m l ∧ ∀ j, T' j → T j ∨ W.heap.size ≤ j := by
  subst hn
  have d0 := cell_below' c0 B5
  have d1 : (w5.cell? ⟨mb, 1, none⟩).isSome = true := by rw [B5.cell (p := ⟨mb, 1, none⟩) hmb]; exact c1
  have e1 : w5.frozen? ⟨mb, 1, none⟩ = false := (B5.frozen (p := ⟨mb, 1, none⟩) hmb).trans f1
  have hS : ∀ c, c ≠ mb → (w5.setCell ⟨mb, 1, none⟩ (.slice (some ⟨g, o, none⟩) l.length cap)).heap[c]? = w5.heap[c]? := fun c hc => Below.heap_setCell w5 ⟨mb, 1, none⟩ _ c hc
  have hz : (w5.setCell ⟨mb, 1, none⟩ (.slice (some ⟨g, o, none⟩) l.length cap)).heap.size = w5.heap.size := by simp
  have h5 := B5.size
  refine ⟨⟨B5.os, B5.tape, B5.output, by rw [hz]; exact h5, fun j hj hs => (hS j fun e => hs (e ▸ HT)).trans (B5.block j hj)⟩, fun j => j = mb ∨ j = g, ⟨⟨mb, _, rfl, .inl rfl, ?_, World.cell?_setCell_same' _ _ _ d1, by rw [World.frozen?_setCell]; exact e1, ?_⟩, ?_⟩, ?_⟩
  · rw [World.cell?_setCell_other]
    · exact d0
    · simp
  · refine ⟨_, cap, rfl, hcap, fun _ => ⟨g, o, rfl, ⟨.inr rfl, by omega⟩, by rw [hz]; exact hg2, fun j hj => ⟨?_, ?_⟩⟩⟩
    · exact (World.cell?_of_block (a := ⟨g, o + j * 2, none⟩) (hS g (by omega))).trans (hc j hj).1
    · exact (World.cell?_of_block (a := ⟨g, o + j * 2 + 1, none⟩) (hS g (by omega))).trans (hc j hj).2
  · rintro j (rfl | rfl)
    · rw [hz]; omega
    · rw [hz]; exact hg2
  · rintro j (rfl | rfl)
    · exact .inl HT
    · exact .inr hg
end Go.Proofs.YtbgkfmodbofalaaGreatDoor
namespace Go.Proofs.YtbgkfmodbofalaaGreatDoor
open Go.RowKit Go.Extern.Stop Go.Stop Go.Extern
theorem Tryz.isTypeOf (v : Value) (w : World) : (callFunc 207 #[.iface 407 v]).run Tryz.prog w = .ok (.value (.iface 340 (.agg #[.pointer (some ⟨21, 407, none⟩)]))) w := by kernel_rfl
theorem Tryz.isComparable (w : World) : (callFunc 383 #[.agg #[.pointer (some ⟨21, 407, none⟩)]]).run Tryz.prog w = .ok (.value (.bool true)) w := by kernel_rfl
theorem Tryz.isMethodComparable (v : Value) (w : World) : (Go.method 541 340 v "Comparable").run Tryz.prog w = .ok (383, v) w := by kernel_rfl
theorem Tryz.isComp : (Tryz.prog.info? 407).map (·.comparable) = some true := by kernel_rfl
theorem Tryz.isSize : (Tryz.prog.info? 409).map (·.size) = some 1 := by kernel_rfl
theorem Tryz.noIsE (v : Value) (xT : TypeId) (w : World) : (Instr.typeAssert (.iface 407 v) xT 351 true).run Tryz.prog w = .ok (.tuple #[.nilIface, .bool false]) w := run_typeAssert_lacksB Tryz.underlying351 (by kernel_rfl) (by kernel_rfl) v xT w
theorem Tryz.noAsE (v : Value) (xT : TypeId) (w : World) : (Instr.typeAssert (.iface 407 v) xT 344 true).run Tryz.prog w = .ok (.tuple #[.nilIface, .bool false]) w := run_typeAssert_lacksB Tryz.underlying344 (by kernel_rfl) (by kernel_rfl) v xT w
theorem Tryz.noUnwrapE (v : Value) (xT : TypeId) (w : World) : (Instr.typeAssert (.iface 407 v) xT 347 true).run Tryz.prog w = .ok (.tuple #[.nilIface, .bool false]) w := run_typeAssert_lacksB Tryz.underlying347 (by kernel_rfl) (by kernel_rfl) v xT w
theorem Tryz.noUnwrapsE (v : Value) (xT : TypeId) (w : World) : (Instr.typeAssert (.iface 407 v) xT 349 true).run Tryz.prog w = .ok (.tuple #[.nilIface, .bool false]) w := run_typeAssert_lacksB Tryz.underlying349 (by kernel_rfl) (by kernel_rfl) v xT w
theorem Tryz.noIsF (v : Value) (xT : TypeId) (w : World) : (Instr.typeAssert (.iface 188 v) xT 351 true).run Tryz.prog w = .ok (.tuple #[.nilIface, .bool false]) w := run_typeAssert_lacksB Tryz.underlying351 (by kernel_rfl) (by kernel_rfl) v xT w
theorem Tryz.hasUnwrapF (v : Value) (xT : TypeId) (w : World) : (Instr.typeAssert (.iface 188 v) xT 347 true).run Tryz.prog w = .ok (.tuple #[.iface 188 v, .bool true]) w := run_typeAssert_hasB Tryz.underlying347 (by kernel_rfl) v xT w
theorem Tryz.methodUnwrap (v : Value) (w : World) : (Go.method 541 188 v "Unwrap").run Tryz.prog w = .ok (377, v) w := by kernel_rfl
theorem is_same (a : Addr) (w : World) :
    Calls Tryz.prog 151 #[.iface 407 (.pointer (some a)), .iface 407 (.pointer (some a))] w fun e w' => e = .returned (.bool true) ∧ w' = w := by
  obtain ⟨i, hi, hcmp⟩ := Option.map_eq_some_iff.1 Tryz.isComp
  obtain ⟨j, hj, hjs⟩ := Option.map_eq_some_iff.1 Tryz.isSize
  have tT := Tryz.isTypeOf
  have cT := Tryz.isComparable
  have mR := Tryz.isMethodComparable
  have heq := run_eql_iface_ptr_same (P := Tryz.prog) w a Tryz.underlying25 Tryz.underlying407 hi hcmp hj
  go_enter Tryz.func151, Tryz.ntmps151
  go_wp2
  refine wp_loop_rounds 1 ?_
  rw [rounds_succ]
  go_wp2
  go_ret
  exact ⟨rfl, rfl⟩
theorem is_other (a b : Addr) (ca cb : Array Value) (ta tb : TypeId) (w : World) (hne : a ≠ b) (ha : w.heap[a.block]? = some (.cells ca ta (0, 0))) (hb : w.heap[b.block]? = some (.cells cb tb (0, 0))) :
    Calls Tryz.prog 151 #[.iface 407 (.pointer (some a)), .iface 407 (.pointer (some b))] w fun e w' => e = .returned (.bool false) ∧ w' = w := by
  obtain ⟨i, hi, hcmp⟩ := Option.map_eq_some_iff.1 Tryz.isComp
  obtain ⟨j, hj, hjs⟩ := Option.map_eq_some_iff.1 Tryz.isSize
  have tT := Tryz.isTypeOf
  have cT := Tryz.isComparable
  have mR := Tryz.isMethodComparable
  have nE := Tryz.noIsE
  have uE := Tryz.noUnwrapE
  have vE := Tryz.noUnwrapsE
  have heq := run_eql_iface_ptr_other (P := Tryz.prog) w Tryz.underlying25 Tryz.underlying407 hi hcmp hj (by rw [hjs]; decide) hne ha hb
  go_enter Tryz.func151, Tryz.ntmps151
  go_wp2
  refine wp_loop_rounds 1 ?_
  rw [rounds_succ]
  go_wp2
  go_ret
  exact ⟨rfl, rfl⟩
end Go.Proofs.YtbgkfmodbofalaaGreatDoor
namespace Go.Proofs.YtbgkfmodbofalaaGreatDoor
open Go.RowKit Go.Extern.Stop Go.Stop Go.Extern
theorem Tryz.valueOfP (t : Addr) (w : World) : (callFunc 203 #[.iface 229 (.pointer (some t))]).run Tryz.prog w
    = .ok (.value (.agg #[.pointer (some ⟨21, 229, none⟩), .pointer (some ⟨w.heap.size, 0, none⟩), .int .u64 150])) (w.alloc (.cells #[.pointer (some t)] 229)) := by kernel_rfl
theorem Tryz.typeP (a : Addr) (w : World) : (callFunc 204 #[.agg #[.pointer (some ⟨21, 229, none⟩), .pointer (some a), .int .u64 150]]).run Tryz.prog w
    = .ok (.value (.iface 340 (.agg #[.pointer (some ⟨21, 229, none⟩)]))) w := by kernel_rfl
theorem Tryz.methodKind (h : Value) (w : World) : (Go.method 541 340 (.agg #[h]) "Kind").run Tryz.prog w = .ok (371, h) w := by kernel_rfl
theorem Tryz.methodElem (h : Value) (w : World) : (Go.method 541 340 (.agg #[h]) "Elem").run Tryz.prog w = .ok (384, .agg #[h]) w := by kernel_rfl
theorem Tryz.methodImplements (h : Value) (w : World) : (Go.method 541 340 (.agg #[h]) "Implements").run Tryz.prog w = .ok (385, .agg #[h]) w := by kernel_rfl
theorem Tryz.methodAssignableTo (h : Value) (w : World) : (Go.method 541 340 (.agg #[h]) "AssignableTo").run Tryz.prog w = .ok (382, .agg #[h]) w := by kernel_rfl
theorem Tryz.kindP (w : World) : (callFunc 371 #[.pointer (some ⟨21, 229, none⟩)]).run Tryz.prog w = .ok (.value (.int .u8 22)) w := by kernel_rfl
theorem Tryz.kindF (w : World) : (callFunc 371 #[.pointer (some ⟨21, 188, none⟩)]).run Tryz.prog w = .ok (.value (.int .u8 22)) w := by kernel_rfl
theorem Tryz.elemP (w : World) : (callFunc 384 #[.agg #[.pointer (some ⟨21, 229, none⟩)]]).run Tryz.prog w = .ok (.value (.iface 340 (.agg #[.pointer (some ⟨21, 188, none⟩)]))) w := by kernel_rfl
theorem Tryz.implementsF (w : World) : (callFunc 385 #[.agg #[.pointer (some ⟨21, 188, none⟩)], .iface 340 (.agg #[.pointer (some ⟨21, 25, none⟩)])]).run Tryz.prog w = .ok (.value (.bool true)) w := by kernel_rfl
theorem Tryz.typeOfF (v : Value) (w : World) : (callFunc 207 #[.iface 188 v]).run Tryz.prog w = .ok (.value (.iface 340 (.agg #[.pointer (some ⟨21, 188, none⟩)]))) w := by kernel_rfl
theorem Tryz.assignableF (w : World) : (callFunc 382 #[.agg #[.pointer (some ⟨21, 188, none⟩)], .iface 340 (.agg #[.pointer (some ⟨21, 188, none⟩)])]).run Tryz.prog w = .ok (.value (.bool true)) w := by kernel_rfl
theorem Tryz.assignableE (w : World) : (callFunc 382 #[.agg #[.pointer (some ⟨21, 407, none⟩)], .iface 340 (.agg #[.pointer (some ⟨21, 188, none⟩)])]).run Tryz.prog w = .ok (.value (.bool false)) w := by kernel_rfl
theorem Tryz.valueOfF (e : Addr) (w : World) : (callFunc 203 #[.iface 188 (.pointer (some e))]).run Tryz.prog w
    = .ok (.value (.agg #[.pointer (some ⟨21, 188, none⟩), .pointer (some ⟨w.heap.size, 0, none⟩), .int .u64 150])) (w.alloc (.cells #[.pointer (some e)] 188)) := by kernel_rfl
theorem rlm (z : Sem Value) (f : TypeId → Addr → Nat → Nat → Sem Value) (v : Value) :
    ReflectliteValue.method z f #[v] = (do match ← ReflectliteValue.parts v with | none => z | some (t, a, fl) => f t a fl (fl % 32)) := rfl
theorem Tryz.partsP (a : Addr) (w : World) : (ReflectliteValue.parts (.agg #[.pointer (some ⟨21, 229, none⟩), .pointer (some a), .int .u64 150])).run Tryz.prog w = .ok (some (229, a, 150)) w := by kernel_rfl
theorem Tryz.isNilP (a p : Addr) (W : World) (ha : W.cell? a = some (.pointer (some p))) :
    (ReflectliteValue.method (ReflectliteValue.valueError "reflectlite.Value.IsNil" 0) ReflectliteValue.isNil #[.agg #[.pointer (some ⟨21, 229, none⟩), .pointer (some a), .int .u64 150]]).run Tryz.prog W = .ok (.bool false) W := by
  rw [rlm]
  simp only [Sem.run_bind, Tryz.partsP, Result.andThen]
  simp [ReflectliteValue.isNil, loadVar, isAgg, underlying, Tryz.underlying229, ha, Result.andThen]
set_option maxHeartbeats 4000000 in
theorem as_miss (x t : Addr) (w : World) (hg : w.cell? ⟨12, 0, none⟩ = some (.iface 340 (.agg #[.pointer (some ⟨21, 25, none⟩)]))) :
    Calls Tryz.prog 150 #[.iface 407 (.pointer (some x)), .iface 229 (.pointer (some t))] w fun ev w' => ev = .returned (.bool false) ∧ Below w.heap.size w w' := by
  have h8 := @run_callFunc_extern Tryz.prog 205 _ (ReflectliteValue.method (ReflectliteValue.valueError "reflectlite.Value.IsNil" 0) ReflectliteValue.isNil) Tryz.func205 (by kernel_rfl) (by kernel_rfl) (by kernel_rfl) (by kernel_rfl)
  have tO := Tryz.isTypeOf
  have mA := Tryz.methodAssignableTo
  have aE := Tryz.assignableE
  have f6 := Tryz.valueOfP
  have f7 := Tryz.typeP
  have mK := Tryz.methodKind
  have mE := Tryz.methodElem
  have mI := Tryz.methodImplements
  have k27 := Tryz.kindP
  have k25 := Tryz.kindF
  have e27 := Tryz.elemP
  have i25 := Tryz.implementsF
  have nE := Tryz.noAsE
  have uE := Tryz.noUnwrapE
  have vE := Tryz.noUnwrapsE
  have n8 := Tryz.isNilP ⟨w.heap.size, 0, none⟩ t ((w.alloc (.cells #[.pointer (some t)] 229)).alloc (.cells #[.pointer (some ⟨21, 229, none⟩), .pointer (some ⟨w.heap.size, 0, none⟩), .int .u64 150] 282)) (by simp)
  have hlt : 12 < w.heap.size := by
    rcases Nat.lt_or_ge 12 w.heap.size with h | h
    · exact h
    · simp [World.cell?, Array.getElem?_eq_none h] at hg
  have hg2 : ((w.alloc (.cells #[.pointer (some t)] 229)).alloc (.cells #[.pointer (some ⟨21, 229, none⟩), .pointer (some ⟨w.heap.size, 0, none⟩), .int .u64 150] 282)).cell? ⟨12, 0, none⟩ = some (.iface 340 (.agg #[.pointer (some ⟨21, 25, none⟩)])) := by
    rw [World.cell?_alloc_lt _ _ ⟨12, 0, none⟩ (by simp; omega), World.cell?_alloc_lt _ _ ⟨12, 0, none⟩ hlt]; exact hg
  go_enter Tryz.func150, Tryz.ntmps150
  go_wp2
  refine wp_loop_rounds 1 ?_
  rw [rounds_succ]
  go_wp2
  go_ret
  exact ⟨rfl, (((Below.refl _ w).alloc (Nat.le_refl _) _).alloc (by simp) _).alloc (by simp; omega) _⟩
end Go.Proofs.YtbgkfmodbofalaaGreatDoor
