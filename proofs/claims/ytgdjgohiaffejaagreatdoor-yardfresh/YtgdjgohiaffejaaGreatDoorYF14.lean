import Derived.Test.YtgdjgohiaffejaaGreatDoorYF12
import Derived.Test.YtgdjgohiaffejaaGreatDoorYF13
import Derived.Test.YtgdjgohiaffejaaGreatDoorYF09
import Derived.Test.YtgdjgohiaffejaaGreatDoorYF06
namespace Go.Proofs.YtgdjgohiaffejaaGreatDoor
open Go.RowKit Go.Shelf Go.Lib
set_option maxRecDepth 100000 in
set_option maxHeartbeats 4000000 in
theorem Run_good (nm word : ByteArray) (p : Option Addr) (len cap : Nat) (a b : Int) (tv : Value) (gr : Nat) (cr : Array Value) (out : ByteArray) (el : Value) (w : World)
    (hel : w.cell? ⟨3, 0, none⟩ = some el) (h6 : 20 < w.heap.size) (htv : ∃ g c, tv = tfn g c)
    (eg : ∀ args w, (callFunc gr args).run Tryz.prog w = .ok (.enter gr args) w)
    (hfind : Hid (Calls Tryz.prog 109 #[.string nm, .string word, .int .i64 len] w fun e w' => e = .returned (.tuple #[kd a b tv (tfn gr cr), .nilIface]) ∧ Below w.heap.size w w' ∧ Objs w' (w.heap.size + 1)))
    (HR : Hid (∀ W, Below w.heap.size w W → Objs W (w.heap.size + 1) → Calls Tryz.prog gr (#[.string word, .slice p len cap] ++ cr) W fun e w' => e = .returned (.string out) ∧ Below W.heap.size W w')) :
    Calls Tryz.prog 34 #[.string nm, .string word, .slice p len cap] w fun e w' => e = .returned (if 2000 < out.size then .tuple #[.string ⟨#[]⟩, el] else .tuple #[.string out, .nilIface]) ∧ Below w.heap.size w w' := by
  obtain ⟨g, c, rfl⟩ := htv
  generalize hr : (if 2000 < out.size then Value.tuple #[.string ⟨#[]⟩, el] else .tuple #[.string out, .nilIface]) = r
  have HQ : Hid ((if 2000 < out.size then Value.tuple #[.string ⟨#[]⟩, el] else .tuple #[.string out, .nilIface]) = r) := hr
  clear hr
  have hnf : ∀ (a : Addr) (m : Mode) (W : World), Sem.run Tryz.prog (store a .nilFunc m) W = stored Tryz.prog W a .nilFunc m := fun a m W => run_store _ W a _ m rfl
  have hnt : ∀ (a : Addr) (m : Mode) (W : World), Sem.run Tryz.prog (store a (tfn g c) m) W = stored Tryz.prog W a (tfn g c) m := fun a m W => run_store _ W a _ m rfl
  have hnr : ∀ (a : Addr) (m : Mode) (W : World), Sem.run Tryz.prog (store a (tfn gr cr) m) W = stored Tryz.prog W a (tfn gr cr) m := fun a m W => run_store _ W a _ m rfl
  go_enter Tryz.func34, Tryz.ntmps34
  go_wp2_with fail
  refine hfind.out.mono ?_
  rintro e w2 ⟨rfl, hb2, hO2⟩
  have gC : Below w2.heap.size w2 (w2.alloc (.cells #[.int .i64 a, .int .i64 b, tfn g c, tfn gr cr] 180)) := (Below.refl _ w2).alloc (Nat.le_refl _) _
  have HC := HR.out _ (below_then hb2 gC) (hO2.stays gC)
  go_wp2_with fail
  refine HC.mono ?_
  rintro e w3 ⟨rfl, hb3⟩
  have g3 := below_then (below_then hb2 gC) hb3
  have ke : w3.cell? ⟨3, 0, none⟩ = some el := (cell_below2 g3 (by omega)).trans hel
  clear HC gC hb2 hO2 hb3
  by_cases hl : 2000 < out.size
  · have d3 : decide ((2000 : Int) < (out.size : Int)) = true := by simp; omega
    go_wp2
    go_region
    all_goals go_wp2
    go_ret2
    exact ⟨ret_eq (by rw [← HQ.out, if_pos hl]; rfl), below_draws g3 1⟩
  · have d3 : decide ((2000 : Int) < (out.size : Int)) = false := by simp; omega
    go_wp2
    go_ret2
    exact ⟨ret_eq (by rw [← HQ.out, if_neg hl]; rfl), g3⟩
set_option maxRecDepth 100000 in
set_option maxHeartbeats 4000000 in
theorem Run_bad (nm word : ByteArray) (p : Option Addr) (len cap : Nat) (t : TypeId) (u : Value) (w : World)
    (hfind : Hid (Calls Tryz.prog 109 #[.string nm, .string word, .int .i64 len] w fun e w' => e = .returned (.tuple #[zkd, .iface t u]) ∧ Below w.heap.size w w')) :
    Calls Tryz.prog 34 #[.string nm, .string word, .slice p len cap] w fun e w' => e = .returned (.tuple #[.string ⟨#[]⟩, .iface t u]) ∧ Below w.heap.size w w' := by
  have hnf : ∀ (a : Addr) (m : Mode) (W : World), Sem.run Tryz.prog (store a .nilFunc m) W = stored Tryz.prog W a .nilFunc m := fun a m W => run_store _ W a _ m rfl
  go_enter Tryz.func34, Tryz.ntmps34
  go_wp2_with fail
  refine hfind.out.mono ?_
  rintro e w2 ⟨rfl, hb2⟩
  have g3 := hb2.alloc hb2.size (.cells #[.int .i64 0, .int .i64 0, .nilFunc, .nilFunc] 180)
  go_wp2
  go_ret2
  exact ⟨rfl, g3⟩
end Go.Proofs.YtgdjgohiaffejaaGreatDoor
namespace Go.Proofs.YtgdjgohiaffejaaGreatDoor
open Go.RowKit Go.Shelf Go.Lib
open Go.Sort (grow Holds putRow)
open Af (Kd)
def Af.actO (nm wd : List UInt8) (ls : List (List UInt8)) : List UInt8 × Nat :=
  if Af.actE nm wd ls.length = 0 then
    (match Af.kindOf nm with
     | some k => if 2000 < (k.out wd ls).length then ([], 10) else (k.out wd ls, 0)
     | none => ([], 5))
  else ([], Af.actE nm wd ls.length)
theorem Run_any {w : World} {er : Nat → Value} (h : AE w er) (nm wd : List UInt8) (hl : wd.length ≤ 1000000) (v : Value) (ls : List (List UInt8)) (hrow : TRow w v ls) (hx : ∀ x ∈ ls, x.length ≤ 3000) :
    Calls Tryz.prog 34 #[.string (ba nm), .string (ba wd), v] w fun e w' => e = .returned (.tuple #[.string (ba (Af.actO nm wd ls).1), er (Af.actO nm wd ls).2]) ∧ Below w.heap.size w w' := by
  obtain ⟨pa, cap, rfl, hcap, hin⟩ := hrow
  have hrow : TRow w (.slice pa ls.length cap) ls := ⟨pa, cap, rfl, hcap, hin⟩
  rcases find_any h nm wd ls.length hl with ⟨e0, k, hk, h1, h2, h3, h4, hf⟩ | ⟨e0, hf⟩
  · have eO : Af.actO nm wd ls = if 2000 < (k.out wd ls).length then ([], 10) else (k.out wd ls, 0) := by
      unfold Af.actO
      rw [if_pos e0, hk]
    have := Run_good (ba nm) (ba wd) pa ls.length cap k.least k.most _ (Af.rf k) (Af.rc (w.heap.size + 1) k) (ba (k.out wd ls)) (er 10) w h.aw.long h.aw.big ⟨_, _, rfl⟩ (rf_enters k) (hid1 hf)
      (hid1 fun W hW hO => run_calls h.aw wd h4 pa cap ls hrow hx k (by omega) (by omega) h3 W hW hO)
    refine this.mono ?_
    rintro e w' ⟨rfl, g⟩
    refine ⟨?_, g⟩
    rw [eO, ba_size]
    split
    · rfl
    · rw [h.zero]
  · have eO : Af.actO nm wd ls = ([], Af.actE nm wd ls.length) := by
      unfold Af.actO
      rw [if_neg e0]
    rw [eO]
    obtain ⟨c, hc⟩ : ∃ c, Af.actE nm wd ls.length = c + 1 := ⟨Af.actE nm wd ls.length - 1, by omega⟩
    obtain ⟨t, u, hu⟩ := h.iface c
    simp only [hc, hu] at hf ⊢
    exact Run_bad (ba nm) (ba wd) pa ls.length cap t u w (hid1 hf)
end Go.Proofs.YtgdjgohiaffejaaGreatDoor
namespace Go.Proofs.YtgdjgohiaffejaaGreatDoor
theorem hasW_get (fs : Tf.Fs) (p : List UInt8) : Tf.hasP fs p = (Tf.get fs p).isSome := by
  unfold Tf.hasP Tf.get
  rw [Option.isSome_map, Bool.eq_iff_iff, List.find?_isSome, List.any_eq_true]
theorem row_newW (W : World) (o : Obj) : (W.alloc o).heap[W.heap.size]? = some o := by
  show (W.heap.push _)[W.heap.size]? = _
  simp
namespace Bf
def want (act : Act) (fs : Tf.Fs) (l : List Ru) : List UInt8 → List UInt8 × Nat := wantF act fs l (l.length + 2)
theorem order_len {l : List Ru} {o : List Nat} (hnd : o.Nodup) (hlt : ∀ i ∈ o, i < l.length) : o.length ≤ l.length := by
  have := Cf.nodup_len (b := List.range l.length) hnd fun i hi => List.mem_range.2 (hlt i hi)
  simpa using this
theorem want_is {act : Act} {fs : Tf.Fs} {l : List Ru} {o : List Nat} (h : Ru.Topo l o) (hnd : o.Nodup) (hlt : ∀ i ∈ o, i < l.length) : Wanted act fs l (inO o) (want act fs l) :=
  wanted_is (fun _ _ hi hn => (rank_of h hi hn).1) (r := fun i => o.idxOf i) (fun _ _ hi hn => (rank_of h hi hn).2) (fun i _ hi => by have : o.idxOf i < o.length := List.idxOf_lt_length_of_mem hi; have := order_len hnd hlt; omega) (by omega)
theorem winB_snoc (f : List UInt8 → List UInt8 × Nat) : ∀ (a : List (List UInt8)) (x : List UInt8) {o : List (List UInt8)}, winB f a = (o, 0) → (f x).2 = 0 → winB f (a ++ [x]) = (o ++ [(f x).1], 0)
  | [], x, o, h, hx => by
    cases h
    show winB f [x] = _
    unfold winB
    rw [if_pos hx]
    rfl
  | y :: r, x, o, h, hx => by
    unfold winB at h
    rw [List.cons_append]
    unfold winB
    by_cases hy : (f y).2 = 0
    · rw [if_pos hy] at h ⊢
      have h2 : (winB f r).2 = 0 := congrArg Prod.snd h
      have h1 : (f y).1 :: (winB f r).1 = o := congrArg Prod.fst h
      rw [winB_snoc f r x (o := (winB f r).1) (Prod.ext rfl h2) hx, ← h1]
      rfl
    · rw [if_neg hy] at h
      exact absurd (congrArg Prod.snd h) hy
theorem winB_stop (f : List UInt8 → List UInt8 × Nat) : ∀ (a : List (List UInt8)) (x : List UInt8) (r : List (List UInt8)) {o : List (List UInt8)}, winB f a = (o, 0) → (f x).2 ≠ 0 → (winB f (a ++ x :: r)).2 = (f x).2
  | [], x, r, o, h, hx => by
    show (winB f (x :: r)).2 = _
    unfold winB
    rw [if_neg hx]
  | y :: a, x, r, o, h, hx => by
    unfold winB at h
    rw [List.cons_append]
    unfold winB
    by_cases hy : (f y).2 = 0
    · rw [if_pos hy] at h ⊢
      have h2 : (winB f a).2 = 0 := congrArg Prod.snd h
      exact winB_stop f a x r (o := (winB f a).1) (Prod.ext rfl h2) hx
    · rw [if_neg hy] at h
      exact absurd (congrArg Prod.snd h) hy
theorem winB_len (f : List UInt8 → List UInt8 × Nat) : ∀ {a o : List (List UInt8)}, winB f a = (o, 0) → o.length = a.length
  | [], o, h => by cases h; rfl
  | y :: a, o, h => by
    unfold winB at h
    by_cases hy : (f y).2 = 0
    · rw [if_pos hy] at h
      have h2 : (winB f a).2 = 0 := congrArg Prod.snd h
      have h1 : (f y).1 :: (winB f a).1 = o := congrArg Prod.fst h
      rw [← h1, List.length_cons, List.length_cons, winB_len f (a := a) (o := (winB f a).1) (Prod.ext rfl h2)]
    · rw [if_neg hy] at h
      exact absurd (congrArg Prod.snd h) hy
theorem winB_all (f : List UInt8 → List UInt8 × Nat) (P : List UInt8 → Prop) (hP : ∀ x, P (f x).1) : ∀ {a o : List (List UInt8)}, winB f a = (o, 0) → ∀ y ∈ o, P y
  | [], o, h => by cases h; simp
  | y :: a, o, h => by
    unfold winB at h
    by_cases hy : (f y).2 = 0
    · rw [if_pos hy] at h
      have h2 : (winB f a).2 = 0 := congrArg Prod.snd h
      have h1 : (f y).1 :: (winB f a).1 = o := congrArg Prod.fst h
      rw [← h1]
      intro z hz
      rcases List.mem_cons.1 hz with rfl | hz
      · exact hP _
      · exact winB_all f P hP (a := a) (o := (winB f a).1) (Prod.ext rfl h2) z hz
    · rw [if_neg hy] at h
      exact absurd (congrArg Prod.snd h) hy
theorem actO_len (k w : List UInt8) (xs : List (List UInt8)) : (Af.actO k w xs).1.length ≤ 2000 := by
  unfold Af.actO
  split
  · split
    · split
      · simp
      · rename_i h; simp only; omega
    · simp
  · simp
theorem wrule_len (f : List UInt8 → List UInt8 × Nat) (r : Ru) : (wrule Af.actO f r).1.length ≤ 2000 := by
  unfold wrule
  split
  · exact actO_len _ _ _
  · simp
theorem want_len {fs : Tf.Fs} {l : List Ru} (hf : ∀ x b, Tf.get fs x = some b → b.length ≤ 2000) (x : List UInt8) : ∀ n, (wantF Af.actO fs l n x).1.length ≤ 2000
  | 0 => by simp [wantF]
  | n + 1 => by
    unfold wantF
    split
    · exact wrule_len _ _
    · split
      · rename_i b hb; exact hf x b hb
      · simp
end Bf
end Go.Proofs.YtgdjgohiaffejaaGreatDoor
namespace Go.Proofs.YtgdjgohiaffejaaGreatDoor
open Go.RowKit Go.Shelf Go.Lib
structure Only (S : Nat → Prop) (w w' : World) : Prop where
  os : w'.os = w.os
  tape : w'.tape = w.tape
  output : w'.output = w.output
  size : w.heap.size ≤ w'.heap.size
  block : ∀ j, j < w.heap.size → ¬ S j → w'.heap[j]? = w.heap[j]?
theorem Only.of {S : Nat → Prop} {w w' : World} (h : Below w.heap.size w w') : Only S w w' := ⟨h.os, h.tape, h.output, h.size, fun j hj _ => h.block j hj⟩
theorem Only.below {S : Nat → Prop} {w w' : World} (h : Only S w w') {B : Nat} (hS : ∀ j, S j → B ≤ j) (hB : B ≤ w.heap.size) : Below B w w' :=
  ⟨h.os, h.tape, h.output, h.size, fun j hj => h.block j (by omega) fun hs => by have := hS j hs; omega⟩
theorem Only.trans {S S' : Nat → Prop} {a b c : World} (h : Only S a b) (h' : Only S' b c) (hS : ∀ j, S' j → S j ∨ a.heap.size ≤ j) : Only S a c :=
  ⟨h'.os.trans h.os, h'.tape.trans h.tape, h'.output.trans h.output, Nat.le_trans h.size h'.size, fun j hj hs => (h'.block j (Nat.lt_of_lt_of_le hj h.size) fun h1 => by
    rcases hS j h1 with h2 | h2
    · exact hs h2
    · omega).trans (h.block j hj hs)⟩
theorem Only.cell {S : Nat → Prop} {w w' : World} (h : Only S w w') {a : Addr} {u : Value} (hc : w.cell? a = some u) (hs : ¬ S a.block) : w'.cell? a = some u :=
  (World.cell?_of_block (h.block a.block (lt_of_cell hc) hs)).trans hc
def enCells (l : Cf.Ens) : List Value := l.flatMap fun e => [Value.string (ba e.1), Value.string (ba e.2)]
theorem enCells_get : ∀ (l : Cf.Ens) (j : Nat) (hj : j < l.length), (enCells l)[j * 2]? = some (.string (ba l[j].1)) ∧ (enCells l)[j * 2 + 1]? = some (.string (ba l[j].2))
  | [], j, hj => by simp at hj
  | x :: t, 0, _ => by simp [enCells]
  | x :: t, j + 1, hj => by
    have := enCells_get t j (by simpa using hj)
    have e : enCells (x :: t) = Value.string (ba x.1) :: Value.string (ba x.2) :: enCells t := by simp [enCells]
    rw [e, show (j + 1) * 2 = j * 2 + 1 + 1 by omega]
    simpa using this
def MERow (w : World) (v : Value) (T : Nat → Prop) (l : Cf.Ens) : Prop :=
  ∃ p cap, v = .slice p l.length cap ∧ l.length ≤ cap ∧ (l ≠ [] → ∃ g o, p = some ⟨g, o, none⟩ ∧ T g ∧ g < w.heap.size ∧ ∀ j (hj : j < l.length), w.cell? ⟨g, o + j * 2, none⟩ = some (.string (ba l[j].1)) ∧ w.cell? ⟨g, o + j * 2 + 1, none⟩ = some (.string (ba l[j].2)))
theorem MERow.same {w w' : World} {v : Value} {T : Nat → Prop} {l : Cf.Ens} (h : MERow w v T l) (hz : w.heap.size ≤ w'.heap.size) (hb : ∀ k, T k → w'.heap[k]? = w.heap[k]?) : MERow w' v T l := by
  obtain ⟨p, cap, e, h0, h1⟩ := h
  refine ⟨p, cap, e, h0, fun hl => ?_⟩
  obtain ⟨g, o, e, hT, hg, hc⟩ := h1 hl
  exact ⟨g, o, e, hT, Nat.lt_of_lt_of_le hg hz, fun j hj => ⟨(World.cell?_of_block (a := ⟨g, o + j * 2, none⟩) (hb g hT)).trans (hc j hj).1, (World.cell?_of_block (a := ⟨g, o + j * 2 + 1, none⟩) (hb g hT)).trans (hc j hj).2⟩⟩
structure MAt (T : Nat → Prop) (W : World) (v : Value) (m : Nat) (l : Cf.Ens) : Prop where
  lies : ∃ mb u, v = .pointer (some ⟨mb, 0, none⟩) ∧ T mb ∧ W.cell? ⟨mb, 0, none⟩ = some (.int .i64 m) ∧ W.cell? ⟨mb, 1, none⟩ = some u ∧ W.frozen? ⟨mb, 1, none⟩ = false ∧ MERow W u (fun k => T k ∧ k ≠ mb) l
  lt : ∀ k, T k → k < W.heap.size
theorem MAt.same {T : Nat → Prop} {W W' : World} {v : Value} {m : Nat} {l : Cf.Ens} (h : MAt T W v m l) (hz : W.heap.size ≤ W'.heap.size) (hb : ∀ k, T k → W'.heap[k]? = W.heap[k]?) : MAt T W' v m l := by
  obtain ⟨mb, u, e, hT, c0, c1, f1, hr⟩ := h.lies
  exact ⟨⟨mb, u, e, hT, (World.cell?_of_block (a := ⟨mb, 0, none⟩) (hb mb hT)).trans c0, (World.cell?_of_block (a := ⟨mb, 1, none⟩) (hb mb hT)).trans c1, (World.frozen?_of_block (a := ⟨mb, 1, none⟩) (hb mb hT)).trans f1, hr.same hz fun k hk => hb k hk.1⟩, fun k hk => Nat.lt_of_lt_of_le (h.lt k hk) hz⟩
theorem MAt.below {T : Nat → Prop} {W W' : World} {v : Value} {m : Nat} {l : Cf.Ens} (h : MAt T W v m l) (hb : Below W.heap.size W W') : MAt T W' v m l := h.same hb.size fun k hk => hb.block k (h.lt k hk)
end Go.Proofs.YtgdjgohiaffejaaGreatDoor
namespace Go.Proofs.YtgdjgohiaffejaaGreatDoor
open Go.RowKit Go.Shelf Go.Lib
theorem MERow.of_owns {w : World} {B : Nat} {v : Value} {l : Cf.Ens} (h : w.ownsRow B 284 2 v l.length (enCells l)) : ∃ p cap, v = .slice p l.length cap ∧ l.length ≤ cap ∧ (l ≠ [] → ∃ g, p = some ⟨g, 0, none⟩ ∧ B ≤ g ∧ g < w.heap.size ∧ ∀ j (hj : j < l.length), w.cell? ⟨g, j * 2, none⟩ = some (.string (ba l[j].1)) ∧ w.cell? ⟨g, j * 2 + 1, none⟩ = some (.string (ba l[j].2))) := by
  rcases h.2 with ⟨rfl, hn⟩ | ⟨g, cap, cur, rfl, hB, hb, h1, _, hcs, h4⟩
  · exact ⟨none, 0, by rw [hn], by omega, fun hl => absurd (List.length_eq_zero_iff.1 hn) hl⟩
  · refine ⟨_, cap, rfl, h1, fun _ => ⟨g, rfl, hB, (Array.getElem?_eq_some_iff.1 hb).1, fun j hj => ?_⟩⟩
    have hg := enCells_get l j hj
    have key : ∀ i, i < l.length * 2 → cur[i]? = (enCells l)[i]? := fun i hi => by
      have := congrArg (fun x => x[i]?) h4
      simp only [List.getElem?_take, hi, if_true, Array.getElem?_toList] at this
      exact this
    refine ⟨?_, ?_⟩
    · simp only [World.cell?, hb]
      simpa using (key (j * 2) (by omega)).trans hg.1
    · simp only [World.cell?, hb]
      simpa using (key (j * 2 + 1) (by omega)).trans hg.2
theorem MAt.stored {T : Nat → Prop} {W w5 : World} {mb m g o n cap : Nat} {l : Cf.Ens} (HT : T mb) (hmb : mb < W.heap.size) (B5 : Below W.heap.size W w5) (c0 : W.cell? ⟨mb, 0, none⟩ = some (.int .i64 m)) (c1 : (W.cell? ⟨mb, 1, none⟩).isSome = true) (f1 : W.frozen? ⟨mb, 1, none⟩ = false)
    (hg : W.heap.size ≤ g) (hg2 : g < w5.heap.size) (hn : n = l.length) (hcap : n ≤ cap) (hc : ∀ j (hj : j < l.length), w5.cell? ⟨g, o + j * 2, none⟩ = some (.string (ba l[j].1)) ∧ w5.cell? ⟨g, o + j * 2 + 1, none⟩ = some (.string (ba l[j].2))) :
    Only T W (w5.setCell ⟨mb, 1, none⟩ (.slice (some ⟨g, o, none⟩) n cap)) ∧ ∃ T', MAt T' (w5.setCell ⟨mb, 1, none⟩ (.slice (some ⟨g, o, none⟩) n cap)) (.pointer (some ⟨mb, 0, none⟩)) m l ∧ ∀ j, T' j → T j ∨ W.heap.size ≤ j := by
  subst hn
  have d0 := cell_below' c0 B5
  have d1 : (w5.cell? ⟨mb, 1, none⟩).isSome = true := by rw [B5.cell (p := ⟨mb, 1, none⟩) hmb]; exact c1
  have e1 : w5.frozen? ⟨mb, 1, none⟩ = false := (B5.frozen (p := ⟨mb, 1, none⟩) hmb).trans f1
  have hS : ∀ c, c ≠ mb → (w5.setCell ⟨mb, 1, none⟩ (.slice (some ⟨g, o, none⟩) l.length cap)).heap[c]? = w5.heap[c]? := fun c hc => Below.heap_setCell w5 ⟨mb, 1, none⟩ _ c hc
  have hz : (w5.setCell ⟨mb, 1, none⟩ (.slice (some ⟨g, o, none⟩) l.length cap)).heap.size = w5.heap.size := by simp
  have h5 := B5.size
  refine ⟨⟨B5.os, B5.tape, B5.output, by rw [hz]; exact h5, fun j hj hs => (hS j fun e => hs (e ▸ HT)).trans (B5.block j hj)⟩, fun j => j = mb ∨ j = g, ⟨⟨mb, _, rfl, .inl rfl, ?_, World.cell?_setCell_same' _ _ _ d1, by rw [World.frozen?_setCell]; exact e1, ?_⟩, ?_⟩, ?_⟩
  · rw [World.cell?_setCell_other]
    · exact d0
    · simp
  · refine ⟨_, cap, rfl, hcap, fun _ => ⟨g, o, rfl, ⟨.inr rfl, by omega⟩, by rw [hz]; exact hg2, fun j hj => ⟨?_, ?_⟩⟩⟩
    · exact (World.cell?_of_block (a := ⟨g, o + j * 2, none⟩) (hS g (by omega))).trans (hc j hj).1
    · exact (World.cell?_of_block (a := ⟨g, o + j * 2 + 1, none⟩) (hS g (by omega))).trans (hc j hj).2
  · rintro j (rfl | rfl)
    · rw [hz]; omega
    · rw [hz]; exact hg2
  · rintro j (rfl | rfl)
    · exact .inl HT
    · exact .inr hg
end Go.Proofs.YtgdjgohiaffejaaGreatDoor
