import Derived.Test.YtdljhggillgpfaaGreatDoorSA13
set_option maxRecDepth 100000
set_option maxHeartbeats 4000000
namespace Go.Proofs.YtdljhggillgpfaaGreatDoor
theorem hasW_get (fs : Tf.Fs) (p : List UInt8) : Tf.hasP fs p = (Tf.get fs p).isSome := by
 unfold Tf.hasP Tf.get
 rw [Option.isSome_map,Bool.eq_iff_iff,List.find?_isSome,List.any_eq_true]
theorem row_newW (W : World) (o : Obj) : (W.alloc o).heap[W.heap.size]? = some o := by
 show (W.heap.push _)[W.heap.size]? = _
 simp
namespace Bf
def want (act : Act) (fs : Tf.Fs) (l : List Ru) : List UInt8 → List UInt8 × Nat := wantF act fs l (l.length + 2)
theorem order_len {l : List Ru} {o : List Nat} (hnd : o.Nodup) (hlt : ∀ i ∈ o,i < l.length) : o.length ≤ l.length := by
 have := Cf.nodup_len (b := List.range l.length) hnd fun i hi => List.mem_range.2 (hlt i hi)
 simpa using this
theorem want_is {act : Act} {fs : Tf.Fs} {l : List Ru} {o : List Nat} (h : Ru.Topo l o) (hnd : o.Nodup) (hlt : ∀ i ∈ o,i < l.length) : Wanted act fs l (inO o) (want act fs l) :=
 wanted_is (fun _ _ hi hn => (rank_of h hi hn).1) (r := fun i => o.idxOf i) (fun _ _ hi hn => (rank_of h hi hn).2) (fun i _ hi => by have : o.idxOf i < o.length := List.idxOf_lt_length_of_mem hi;have := order_len hnd hlt;omega) (by omega)
theorem winB_snoc (f : List UInt8 → List UInt8 × Nat) : ∀ (a : List (List UInt8)) (x : List UInt8) {o : List (List UInt8)},winB f a = (o,0) → (f x).2 = 0 → winB f (a ++ [x]) = (o ++ [(f x).1],0)
 | [],x,o,h,hx => by
  cases h
  show winB f [x] = _
  unfold winB
  rw [if_pos hx]
  rfl
 | y :: r,x,o,h,hx => by
  unfold winB at h
  rw [List.cons_append]
  unfold winB
  by_cases hy : (f y).2 = 0
  ·rw [if_pos hy] at h ⊢
   have h2 : (winB f r).2 = 0 := congrArg Prod.snd h
   have h1 : (f y).1 :: (winB f r).1 = o := congrArg Prod.fst h
   rw [winB_snoc f r x (o := (winB f r).1) (Prod.ext rfl h2) hx,← h1]
   rfl
  ·rw [if_neg hy] at h
   exact absurd (congrArg Prod.snd h) hy
theorem winB_stop (f : List UInt8 → List UInt8 × Nat) : ∀ (a : List (List UInt8)) (x : List UInt8) (r : List (List UInt8)) {o : List (List UInt8)},winB f a = (o,0) → (f x).2 ≠ 0 → (winB f (a ++ x :: r)).2 = (f x).2
 | [],x,r,o,h,hx => by
  show (winB f (x :: r)).2 = _
  unfold winB
  rw [if_neg hx]
 | y :: a,x,r,o,h,hx => by
  unfold winB at h
  rw [List.cons_append]
  unfold winB
  by_cases hy : (f y).2 = 0
  ·rw [if_pos hy] at h ⊢
   have h2 : (winB f a).2 = 0 := congrArg Prod.snd h
   exact winB_stop f a x r (o := (winB f a).1) (Prod.ext rfl h2) hx
  ·rw [if_neg hy] at h
   exact absurd (congrArg Prod.snd h) hy
theorem winB_len (f : List UInt8 → List UInt8 × Nat) : ∀ {a o : List (List UInt8)},winB f a = (o,0) → o.length = a.length
 | [],o,h => by cases h;rfl
 | y :: a,o,h => by
  unfold winB at h
  by_cases hy : (f y).2 = 0
  ·rw [if_pos hy] at h
   have h2 : (winB f a).2 = 0 := congrArg Prod.snd h
   have h1 : (f y).1 :: (winB f a).1 = o := congrArg Prod.fst h
   rw [← h1,List.length_cons,List.length_cons,winB_len f (a := a) (o := (winB f a).1) (Prod.ext rfl h2)]
  ·rw [if_neg hy] at h
   exact absurd (congrArg Prod.snd h) hy
theorem winB_all (f : List UInt8 → List UInt8 × Nat) (P : List UInt8 → Prop) (hP : ∀ x,P (f x).1) : ∀ {a o : List (List UInt8)},winB f a = (o,0) → ∀ y ∈ o,P y
 | [],o,h => by cases h;simp
 | y :: a,o,h => by
  unfold winB at h
  by_cases hy : (f y).2 = 0
  ·rw [if_pos hy] at h
   have h2 : (winB f a).2 = 0 := congrArg Prod.snd h
   have h1 : (f y).1 :: (winB f a).1 = o := congrArg Prod.fst h
   rw [← h1]
   intro z hz
   rcases List.mem_cons.1 hz with rfl | hz
   ·exact hP _
   ·exact winB_all f P hP (a := a) (o := (winB f a).1) (Prod.ext rfl h2) z hz
  ·rw [if_neg hy] at h
   exact absurd (congrArg Prod.snd h) hy
theorem actO_len (k w : List UInt8) (xs : List (List UInt8)) : (Af.actO k w xs).1.length ≤ 2000 := by
 unfold Af.actO
 split
 ·split
  ·split
   ·simp
   ·rename_i h;simp only;omega
  ·simp
 ·simp
theorem wrule_len (f : List UInt8 → List UInt8 × Nat) (r : Ru) : (wrule Af.actO f r).1.length ≤ 2000 := by
 unfold wrule
 split
 ·exact actO_len _ _ _
 ·simp
theorem want_len {fs : Tf.Fs} {l : List Ru} (hf : ∀ x b,Tf.get fs x = some b → b.length ≤ 2000) (x : List UInt8) : ∀ n,(wantF Af.actO fs l n x).1.length ≤ 2000
 | 0 => by simp [wantF]
 | n + 1 => by
  unfold wantF
  split
  ·exact wrule_len _ _
  ·split
   ·rename_i b hb;exact hf x b hb
   ·simp
end Bf
end Go.Proofs.YtdljhggillgpfaaGreatDoor
namespace Go.Proofs.YtdljhggillgpfaaGreatDoor
open Go.RowKit Go.Shelf Go.Lib
structure Only (S : Nat → Prop) (w w' : World) : Prop where
 os : w'.os = w.os
 tape : w'.tape = w.tape
 output : w'.output = w.output
 size : w.heap.size ≤ w'.heap.size
 block : ∀ j,j < w.heap.size → ¬ S j → w'.heap[j]? = w.heap[j]?
theorem Only.of {S : Nat → Prop} {w w' : World} (h : Below w.heap.size w w') : Only S w w' := ⟨h.os,h.tape,h.output,h.size,fun j hj _ => h.block j hj⟩
theorem Only.below {S : Nat → Prop} {w w' : World} (h : Only S w w') {B : Nat} (hS : ∀ j,S j → B ≤ j) (hB : B ≤ w.heap.size) : Below B w w' :=
 ⟨h.os,h.tape,h.output,h.size,fun j hj => h.block j (by omega) fun hs => by have := hS j hs;omega⟩
theorem Only.trans {S S' : Nat → Prop} {a b c : World} (h : Only S a b) (h' : Only S' b c) (hS : ∀ j,S' j → S j ∨ a.heap.size ≤ j) : Only S a c :=
 ⟨h'.os.trans h.os,h'.tape.trans h.tape,h'.output.trans h.output,Nat.le_trans h.size h'.size,fun j hj hs => (h'.block j (Nat.lt_of_lt_of_le hj h.size) fun h1 => by
  rcases hS j h1 with h2 | h2
  ·exact hs h2
  ·omega).trans (h.block j hj hs)⟩
theorem Only.cell {S : Nat → Prop} {w w' : World} (h : Only S w w') {a : Addr} {u : Value} (hc : w.cell? a = some u) (hs : ¬ S a.block) : w'.cell? a = some u :=
 (World.cell?_of_block (h.block a.block (lt_of_cell hc) hs)).trans hc
end Go.Proofs.YtdljhggillgpfaaGreatDoor
namespace Go.Proofs.YtdljhggillgpfaaGreatDoor
open Go.RowKit Go.Shelf Go.Lib
structure Caches0 (es : Nat → Addr) (At : (Nat → Prop) → World → Value → Nat → Cf.Ens → Prop) : Prop where
 same : ∀ (S : Nat → Prop) (W W' : World) v m l,At S W v m l → W.heap.size ≤ W'.heap.size → (∀ k,S k → W'.heap[k]? = W.heap[k]?) → At S W' v m l
 lt : ∀ (S : Nat → Prop) (W : World) v m l,At S W v m l → ∀ k,S k → k < W.heap.size
 make : ∀ (W : World) (m : Nat),1 ≤ m → m ≤ 100 → Calls Tryz.prog 31 #[.int .i64 m] W fun e w' => ∃ p S,e = .returned (.tuple #[.pointer (some p),.nilIface]) ∧ Below W.heap.size W w' ∧ At S w' (.pointer (some p)) m [] ∧ ∀ k,S k → W.heap.size ≤ k
 no : ∀ (W : World) (m : Int),-9223372036854775808 ≤ m → m ≤ 9223372036854775807 → (m < 1 ∨ 100 < m) → W.cell? ⟨0,0,none⟩ = some (erOf es 2) → Calls Tryz.prog 31 #[.int .i64 m] W fun e w' => e = .returned (.tuple #[.pointer none,erOf es 2]) ∧ Below W.heap.size W w'
 put : ∀ (S : Nat → Prop) (W : World) p m l (k b : List UInt8),At S W (.pointer (some p)) m l → 1 ≤ m → m ≤ 100 → Cf.Ok m l → k.length ≤ 100000 → b.length ≤ 100000 → Calls Tryz.prog 233 #[.pointer (some p),.string (ba k),.string (ba b)] W fun e w' => e = .returned (.tuple #[]) ∧ Only S W w' ∧ ∃ S',At S' w' (.pointer (some p)) m (Cf.put m l k b) ∧ ∀ j,S' j → S j ∨ W.heap.size ≤ j
 get : ∀ (S : Nat → Prop) (W : World) p m l (k : List UInt8),At S W (.pointer (some p)) m l → 1 ≤ m → m ≤ 100 → Cf.Ok m l → k.length ≤ 100000 → Calls Tryz.prog 232 #[.pointer (some p),.string (ba k)] W fun e w' => e = .returned (.tuple #[.string (ba ((Cf.find l k).getD [])),.bool (Cf.find l k).isSome]) ∧ Only S W w' ∧ ∃ S',At S' w' (.pointer (some p)) m (Cf.get m l k) ∧ ∀ j,S' j → S j ∨ W.heap.size ≤ j
def KeyTells (W0 : World) : Prop := ∀ (W : World),Below W0.heap.size W0 W → ∀ (kind word : List UInt8) v ins,XRow W v ins → kind.length ≤ 200 → word.length ≤ 200 → ins.length ≤ 12 → (∀ x ∈ ins,x.length ≤ 3000) → Calls Tryz.prog 231 #[.string (ba kind),.string (ba word),v] W fun e w' => e = .returned (.string (ba (Kp.key kind word ins))) ∧ Below W.heap.size W w'
end Go.Proofs.YtdljhggillgpfaaGreatDoor
namespace Go.Proofs.YtdljhggillgpfaaGreatDoor
open Go.RowKit Go.Shelf Go.Lib Go.Extern.Stop Go.Stop Go.Extern
def Told (w : World) (es : Nat → Addr) (n : Nat) (c : Nat → Nat) (u : Value) : Prop :=
 ((∀ j,j < n → c j = 0) ∧ u = .nilIface) ∨ ∃ k pb,k < n ∧ c k ≠ 0 ∧ (∀ j,j < k → c j = 0) ∧ u = .iface 64 (.pointer (some ⟨pb,0,none⟩)) ∧ w.cell? ⟨pb,0,none⟩ = some (.int .i64 k) ∧ w.cell? ⟨pb,1,none⟩ = some (erOf es (c k))
theorem searchS_calls {w : World} {es : Nat → Addr} (v : Value) (l : List (List UInt8)) (hrow : XRow w v l) (hl : l.length ≤ 1000000) (f : Nat) (caps : Array Value) (eg : ∀ args w,(callFunc f args).run Tryz.prog w = .ok (.enter f args) w) (c : Nat → Nat)
  (HS : Hid (∀ k (hk : k < l.length) W,Below w.heap.size w W → Calls Tryz.prog f (#[.int .i64 k,.string (ba l[k])] ++ caps) W fun e w' => e = .returned (erOf es (c k)) ∧ Below W.heap.size W w')) :
  Calls Tryz.prog 95 #[v,.func (.func f) #[] caps] w fun e w' => ∃ u,e = .returned u ∧ Below w.heap.size w w' ∧ Told w' es l.length c u := by
 obtain ⟨p,cap,rfl,hcap,_,hin⟩ := hrow
 have HI := hid1 hin
 go_enter Tryz.func95,Tryz.ntmps95
 go_wp2
 go_loopw [10] (fun i wr => ∃ k : Nat,k ≤ l.length ∧ i = .int .i64 k ∧ (∀ j,j < k → c j = 0) ∧ Below w.heap.size w wr) (fun i _ => l.length - (intOf i).toNat)
 case atStart => exact ⟨0,Nat.zero_le _,rfl,fun j h => by omega,Below.refl _ _⟩
 case round =>
  obtain ⟨k,hk,rfl,hz,hB⟩ := hrel
  have HZ := hid1 hz
  have c0 : (0 : Int) ≤ (k : Int) := by omega
  by_cases hlt : k < l.length
  ·have c1 : (k : Int) < (l.length : Int) := by omega
   obtain ⟨g',o,rfl,hg,hcur⟩ := HI.out (by intro e;rw [e] at hlt;simp at hlt)
   have hcell := (hB.cell (p := ⟨g',o + k,none⟩) hg).trans (hcur k hlt)
   have HC := HS.out k hlt wr hB
   generalize l[k] = y at *
   cases hc : c k with
   | zero =>
    rw [hc] at HC
    simp only [erOf] at HC
    have HN : Hid (∀ j,j < k + 1 → c j = 0) := hid1 fun j hj => by
     rcases Nat.lt_or_ge j k with h | h
     ·exact HZ.out j h
     ·obtain rfl : j = k := by omega
      exact hc
    go_wp2_with fail
    refine Calls.mono HC ?_
    rintro e w1 ⟨rfl,hb1⟩
    go_wp2
    exact ⟨⟨k + 1,by omega,by go_num,HN.out,below_then hB hb1⟩,by simp [intOf];omega⟩
   | succ m =>
    rw [hc] at HC
    have HE := hid1 hc
    simp only [erOf] at HC
    go_wp2_with fail
    refine Calls.mono HC ?_
    rintro e w1 ⟨rfl,hb1⟩
    go_wp2
    go_ret
    refine ⟨_,rfl,(below_then hB hb1).alloc (below_then hB hb1).size _,.inr ⟨k,w1.heap.size,hlt,by rw [HE.out];omega,HZ.out,rfl,?_,?_⟩⟩
    ·simp
    ·rw [HE.out]
     simp [erOf]
  ·have c1 : (l.length : Int) ≤ (k : Int) := by omega
   have HN : Hid (∀ j,j < l.length → c j = 0) := hid1 fun j hj => HZ.out j (by omega)
   go_wp2
   go_ret
   exact ⟨_,rfl,hB,.inl ⟨HN.out,rfl⟩⟩
theorem as_nil (t : Value) (w : World) : Calls Tryz.prog 27 #[.nilIface,t] w fun e w' => e = .returned (.bool false) ∧ w' = w := by
 go_enter Tryz.func27,Tryz.ntmps27
 go_wp2
 go_ret
 exact ⟨rfl,rfl⟩
theorem bare_nil (w : World) : Calls Tryz.prog 187 #[.nilIface] w fun e w' => e = .returned .nilIface ∧ Below w.heap.size w w' := by
 have HA := hid1 fun t W => as_nil t W
 go_enter Tryz.func187,Tryz.ntmps187
 go_wp2_with fail
 refine (HA.out _ _).mono ?_
 rintro e w1 ⟨rfl,rfl⟩
 go_wp2
 go_ret
 exact ⟨rfl,(Below.refl _ w).alloc (Nat.le_refl _) _⟩
theorem bare_fault {w : World} {es : Nat → Addr} (hE : ES w es) (pb : Nat) (t : TypeId) (u : Value) (h1 : w.cell? ⟨pb,1,none⟩ = some (.iface t u)) :
  Calls Tryz.prog 187 #[.iface 64 (.pointer (some ⟨pb,0,none⟩))] w fun e w' => e = .returned (.iface t u) ∧ Below w.heap.size w w' := by
 have hB0 : Below w.heap.size w (w.alloc (.cells #[.pointer none] 64)) := (Below.refl _ w).alloc (Nat.le_refl _) _
 have hE0 := hE.below hB0
 go_enter Tryz.func187,Tryz.ntmps187
 go_wp2_with fail
 refine (as_hit ⟨pb,0,none⟩ ⟨w.heap.size,0,none⟩ (.pointer none) _ hE0.t (by simp) (by simp)).mono ?_
 rintro e w1 ⟨rfl,hw1⟩
 have hB1 : Below w.heap.size w w1 := by
  rw [hw1]
  exact (((((hB0.alloc (by simp) _).alloc (by simp;omega) _).alloc (by simp;omega) _).alloc (by simp;omega) _).setCell (p := ⟨w.heap.size,0,none⟩) (Nat.le_refl _) _)
 have hc1 : w1.cell? ⟨w.heap.size,0,none⟩ = some (.pointer (some ⟨pb,0,none⟩)) := by
  rw [hw1]
  refine World.cell?_setCell_same' _ _ _ ?_
  rw [World.cell?_alloc_lt _ _ ⟨w.heap.size,0,none⟩ (by simp;omega),World.cell?_alloc_lt _ _ ⟨w.heap.size,0,none⟩ (by simp;omega),World.cell?_alloc_lt _ _ ⟨w.heap.size,0,none⟩ (by simp;omega),World.cell?_alloc_lt _ _ ⟨w.heap.size,0,none⟩ (by simp)]
  simp
 clear hw1
 have g1 := cell_below h1 hB1
 clear hE0 hB0 h1 hE
 go_wp2
 go_ret
 exact ⟨rfl,hB1⟩
theorem bare_told {w : World} {es : Nat → Addr} (hE : ES w es) {n : Nat} {c : Nat → Nat} {u : Value} (h : Told w es n c u) :
  Calls Tryz.prog 187 #[u] w fun e w' => e = .returned (erOf es (Ru.firstC c n)) ∧ Below w.heap.size w w' := by
 rcases h with ⟨h0,rfl⟩ | ⟨k,pb,hk,hc,h0,rfl,_,h1⟩
 ·rw [Ru.firstC_none h0]
  exact bare_nil w
 ·rw [Ru.firstC_some hk hc h0]
  obtain ⟨m,hm⟩ : ∃ m,c k = m + 1 := ⟨c k - 1,by omega⟩
  rw [hm] at h1 ⊢
  exact bare_fault hE pb _ _ h1
end Go.Proofs.YtdljhggillgpfaaGreatDoor
namespace Go.Proofs.YtdljhggillgpfaaGreatDoor
open Go.RowKit Go.Shelf Go.Lib
theorem pCheck_any {w : World} {es : Nat → Addr} (hE : ES w es) (s : List UInt8) (hs : s.length ≤ 1000000) :
  Calls Tryz.prog 104 #[.string (ba s)] w fun e w' => e = .returned (erOf es (if pathB s = false then 4 else 0)) ∧ Below w.heap.size w w' := by
 cases h : pathB s with
 | true => exact Check_yes s hs h w
 | false => exact Check_no s hs h w _ _ hE.c3
theorem ruCheck1_calls {w : World} {es : Nat → Addr} (hE : ES w es) (k : Int) (s : List UInt8) (hs : s.length ≤ 1000000) :
  Calls Tryz.prog 186 #[.int .i64 k,.string (ba s)] w fun e w' => e = .returned (erOf es (if pathB s = false then 4 else 0)) ∧ Below w.heap.size w w' := by
 have HC := hid1 (pCheck_any hE s hs)
 generalize erOf es (if pathB s = false then 4 else 0) = r at *
 clear hE
 go_enter Tryz.func186,Tryz.ntmps186
 go_wp2_with fail
 refine HC.out.mono ?_
 rintro e w1 ⟨rfl,hb⟩
 go_wp2
 go_ret
 exact ⟨rfl,hb⟩
theorem contains_x {w : World} (g o n cap : Nat) (l : List (List UInt8)) (x : List UInt8) (hn : n ≤ l.length) (hl : l.length ≤ 1000000) (hc : ∀ j (hj : j < l.length),w.cell? ⟨g,o + j,none⟩ = some (.string (ba l[j]))) :
  Calls Tryz.prog 184 #[.slice (some ⟨g,o,none⟩) n cap,.string (ba x)] w fun e w' => e = .returned (.bool (decide (x ∈ l.take n))) ∧ w' = w := by
 have := Tryz.slices_Contains_string g o n cap (l.map ba) (ba x) w (by simpa using hn) (by omega) (fun j hj => by
  have hjl : j < l.length := by simpa using hj
  rw [hc j hjl]
  simp [hjl])
 have e : Lib.containsS ((l.map ba).take n) (ba x) = decide (x ∈ l.take n) := by
  rw [Bool.eq_iff_iff,Lib.containsS_iff,decide_eq_true_iff,← List.map_take]
  simp only [List.mem_map]
  constructor
  ·rintro ⟨y,hy,e⟩
   have : y = x := by
    have := congrArg (·.data.toList) e
    simpa [ba] using this
   rw [← this]
   exact hy
  ·exact fun h => ⟨x,h,rfl⟩
 rw [e] at this
 exact this
theorem ruCheck2_calls {w : World} {es : Nat → Addr} (hE : ES w es) (r : Ru) (b k : Nat) (hk : k < r.ins.length) (hl : r.ins.length ≤ 1000000) (hR : RuAt w b 0 r) :
  Calls Tryz.prog 188 #[.int .i64 k,.string (ba r.ins[k]),.pointer (some ⟨b,0,none⟩)] w fun e w' => e = .returned (erOf es (if r.twiceAt k = true then 7 else 0)) ∧ Below w.heap.size w w' := by
 obtain ⟨h0,_,_,v,h3,p,cap,rfl,hcap,_,hin⟩ := hR
 obtain ⟨g,o,rfl,hg,hcur⟩ := hin (by intro e;rw [e] at hk;simp at hk)
 have hx := hE.c6
 have HC := hid1 (contains_x (w := w) g o k cap r.ins r.ins[k] (by omega) hl hcur)
 have HT := hid1 (Ru.twiceAt_eq hk)
 clear hin hcur hE
 have z1 : (k : Int) ≤ (cap : Int) := by omega
 have z0 : (0 : Int) ≤ (k : Int) := by omega
 have z2 : (k : Int) ≤ 1000000 := by omega
 generalize r.ins[k] = x at *
 generalize r.ins.length = n at *
 rw [Nat.zero_add] at h3
 by_cases he : x = r.out
 ·have HQ : Hid (r.twiceAt k = true) := hid1 (by rw [HT.out,he];simp)
  rw [HQ.out]
  clear HC HT
  subst he
  generalize r.out = y at *
  go_enter Tryz.func188,Tryz.ntmps188
  go_wp2
  go_ret
  exact ⟨rfl,Below.refl _ _⟩
 ·have e1 : (x == r.out) = false := by simpa using he
  have HQ : Hid (r.twiceAt k = decide (x ∈ r.ins.take k)) := hid1 (by rw [HT.out];simp [he])
  rw [HQ.out]
  clear HT
  generalize decide (x ∈ r.ins.take k) = d at *
  generalize r.out = y at *
  cases d with
  | true =>
   go_enter Tryz.func188,Tryz.ntmps188
   go_wp2_with fail
   refine HC.out.mono ?_
   rintro e w1 ⟨rfl,rfl⟩
   go_wp2
   go_ret
   exact ⟨rfl,Below.refl _ _⟩
  | false =>
   go_enter Tryz.func188,Tryz.ntmps188
   go_wp2_with fail
   refine HC.out.mono ?_
   rintro e w1 ⟨rfl,rfl⟩
   go_wp2
   go_ret
   exact ⟨rfl,Below.refl _ _⟩
end Go.Proofs.YtdljhggillgpfaaGreatDoor
namespace Go.Proofs.YtdljhggillgpfaaGreatDoor
open Go.RowKit Go.Shelf Go.Lib
theorem Ru.err_tail {r : Ru} (h1 : pathB r.out = true) (h2 : Af.actE r.kind r.word r.ins.length = 0) : r.err = if r.ins.all pathB = false then 4 else if r.twice = true then 7 else 0 := by
 unfold Ru.err
 rw [if_neg (by rw [h1];simp),if_neg (by rw [h2];simp)]
theorem first_paths (l : List (List UInt8)) : Ru.firstC (fun k => if pathB (l.getD k []) = false then 4 else 0) l.length = if l.all pathB = false then 4 else 0 := by
 cases h : l.all pathB with
 | true =>
  rw [Ru.firstC_none fun j hj => ?_]
  ·rfl
  ·have := List.all_eq_true.1 h l[j] (List.getElem_mem hj)
   rw [List.getD_eq_getElem?_getD,List.getElem?_eq_getElem hj,Option.getD_some,if_neg (by rw [this];simp)]
 | false =>
  rcases Ru.firstC_const (c := fun k => if pathB (l.getD k []) = false then 4 else 0) (n := l.length) (d := 4) (fun j => by split;exact .inr rfl;exact .inl rfl) with h0 | h0
  ·exfalso
   rw [List.all_eq_false] at h
   obtain ⟨x,hx,hp⟩ := h
   obtain ⟨j,hj,rfl⟩ := List.getElem_of_mem hx
   have := Ru.firstC_zero h0 j hj
   rw [List.getD_eq_getElem?_getD,List.getElem?_eq_getElem hj,Option.getD_some] at this
   simp [hp] at this
  ·rw [h0];rfl
theorem first_twice (r : Ru) : Ru.firstC (fun k => if r.twiceAt k = true then 7 else 0) r.ins.length = if r.twice = true then 7 else 0 := by
 cases h : r.twice with
 | true =>
  rcases Ru.firstC_const (c := fun k => if r.twiceAt k = true then 7 else 0) (n := r.ins.length) (d := 7) (fun j => by split;exact .inr rfl;exact .inl rfl) with h0 | h0
  ·exfalso
   obtain ⟨j,hj,hp⟩ := Ru.twice_iff.1 h
   have := Ru.firstC_zero h0 j hj
   simp [hp] at this
  ·rw [h0];rfl
 | false =>
  rw [Ru.firstC_none fun j hj => ?_]
  ·rfl
  ·rw [if_neg]
   intro hp
   rw [Ru.twice_iff.2 ⟨j,hj,hp⟩] at h
   cases h
structure Ru.Wide (r : Ru) : Prop where
 out : r.out.length ≤ 100000
 word : r.word.length ≤ 100000
 many : r.ins.length ≤ 100000
 ins : ∀ x ∈ r.ins,x.length ≤ 100000
theorem Ru.Small.wide {r : Ru} (h : r.Small) : r.Wide := ⟨Nat.le_trans h.out (by decide),Nat.le_trans h.word (by decide),Nat.le_trans h.many (by decide),fun x hx => Nat.le_trans (h.ins x hx) (by decide)⟩
theorem ruCheck_calls {w : World} {es : Nat → Addr} (hE : ES w es) (hA : AE w (erOf es)) (r : Ru) (hS : r.Wide) (v : Value) (hrow : XRow w v r.ins) :
  Calls Tryz.prog 140 #[ruV r v] w fun e w' => e = .returned (erOf es r.err) ∧ Below w.heap.size w w' := by
 have hB0 : Below w.heap.size w (w.alloc (.cells #[.string (ba r.out),.string (ba r.kind),.string (ba r.word),v] 36)) := (Below.refl _ w).alloc (Nat.le_refl _) _
 have hR0 : RuAt (w.alloc (.cells #[.string (ba r.out),.string (ba r.kind),.string (ba r.word),v] 36)) w.heap.size 0 r := ⟨by simp,by simp,by simp,v,by simp,hrow.below hB0⟩
 have s1 := hS.out
 have s2 := hS.word
 have s3 := hS.many
 have HP := hid1 fun W (hW : Below w.heap.size w W) => pCheck_any (hE.below hW) r.out (by omega)
 have HK := hid1 fun W (hW : Below w.heap.size w W) => Check_any (hA.stays hW) r.kind r.word r.ins.length (by omega)
 have H1 := hid1 fun W (hW : Below w.heap.size w W) => searchS_calls (es := es) v r.ins (hrow.below hW) (by omega) 186 #[] (enters_of Tryz.func186 (by kernel_rfl) rfl) (fun k => if pathB (r.ins.getD k []) = false then 4 else 0)
  (hid1 fun k hk W' hW' => by
   have := ruCheck1_calls (hE.below (below_then hW hW')) k r.ins[k] (Nat.le_trans (hS.ins _ (List.getElem_mem hk)) (by omega))
   rw [List.getD_eq_getElem?_getD,List.getElem?_eq_getElem hk,Option.getD_some]
   exact this)
 have H2 := hid1 fun W (hW : Below w.heap.size w W) (b : Nat) (hR : RuAt W b 0 r) => searchS_calls (es := es) v r.ins (hrow.below hW) (by omega) 188 #[.pointer (some ⟨b,0,none⟩)] (enters_of Tryz.func188 (by kernel_rfl) rfl) (fun k => if r.twiceAt k = true then 7 else 0)
  (hid1 fun k hk W' hW' => ruCheck2_calls (hE.below (below_then hW hW')) r b k hk (by omega) (hR.below hW'))
 have HB := hid1 fun W (hW : Below w.heap.size w W) n c u (hT : Told W es n c u) => bare_told (hE.below hW) hT
 have HR := hid1 hR0
 have HEq : Hid (r.err = if pathB r.out = false then 4 else if Af.actE r.kind r.word r.ins.length ≠ 0 then Af.actE r.kind r.word r.ins.length else if r.ins.all pathB = false then 4 else if r.twice = true then 7 else 0) := hid1 rfl
 obtain ⟨p,cap,rfl,hcap,hnn,hin⟩ := hrow
 clear hE hA hS hin hnn hR0
 cases hp : pathB r.out with
 | false =>
  have HF : Hid (r.err = 4) := hid1 (by rw [HEq.out,hp];rfl)
  rw [HF.out]
  rw [hp] at HP
  simp only [erOf,if_true] at HP ⊢
  go_enter Tryz.func140,Tryz.ntmps140
  go_wp2_with fail
  refine (HP.out _ hB0).mono ?_
  rintro e w1 ⟨rfl,hb⟩
  have g1 := below_then hB0 hb
  go_wp2
  go_ret
  exact ⟨rfl,g1⟩
 | true =>
  rw [hp] at HP
  simp only [erOf,Bool.true_eq_false,if_false] at HP
  cases ha : Af.actE r.kind r.word r.ins.length with
  | succ m =>
   have HF : Hid (r.err = m + 1) := hid1 (by rw [HEq.out,hp,ha];rfl)
   rw [HF.out]
   rw [ha] at HK
   simp only [erOf] at HK ⊢
   generalize r.ins.length = n at *
   go_enter Tryz.func140,Tryz.ntmps140
   go_wp2_with fail
   refine (HP.out _ hB0).mono ?_
   rintro e w1 ⟨rfl,hb⟩
   have g1 := below_then hB0 hb
   have k1 := (hb.cell (p := ⟨w.heap.size,1,none⟩) (by simp)).trans (by simp;rfl)
   have k2 := (hb.cell (p := ⟨w.heap.size,2,none⟩) (by simp)).trans (by simp;rfl)
   have k3 := (hb.cell (p := ⟨w.heap.size,3,none⟩) (by simp)).trans (by simp;rfl)
   clear hb
   go_wp2_with fail
   refine (HK.out _ g1).mono ?_
   rintro e w2 ⟨rfl,hb⟩
   have g2 := below_then g1 hb
   go_wp2
   go_ret
   exact ⟨rfl,g2⟩
  | zero =>
   have HF := hid1 (Ru.err_tail hp ha)
   rw [ha] at HK
   simp only [erOf] at HK
   have HFP := hid1 (first_paths r.ins)
   have HFT := hid1 (first_twice r)
   generalize (fun k => if pathB (r.ins.getD k []) = false then 4 else 0) = cP at *
   generalize (fun k => if r.twiceAt k = true then 7 else 0) = cT at *
   generalize r.ins.length = n at *
   go_enter Tryz.func140,Tryz.ntmps140
   go_wp2_with fail
   refine (HP.out _ hB0).mono ?_
   rintro e w1 ⟨rfl,hb⟩
   have g1 := below_then hB0 hb
   have R1 := hid1 (HR.out.below hb)
   have k1 := (hb.cell (p := ⟨w.heap.size,1,none⟩) (by simp)).trans (by simp;rfl)
   have k2 := (hb.cell (p := ⟨w.heap.size,2,none⟩) (by simp)).trans (by simp;rfl)
   have k3 := (hb.cell (p := ⟨w.heap.size,3,none⟩) (by simp)).trans (by simp;rfl)
   clear hb
   go_wp2_with fail
   refine (HK.out _ g1).mono ?_
   rintro e w2 ⟨rfl,hb⟩
   have g2 := below_then g1 hb
   have R2 := hid1 (R1.out.below hb)
   have q3 := cell_below' k3 hb
   clear hb k1 k2 k3 R1
   go_wp2_with fail
   refine (H1.out _ g2).mono ?_
   rintro e w3 ⟨u,rfl,hb,ht⟩
   have g3 := below_then g2 hb
   have R3 := hid1 (R2.out.below hb)
   have T := hid1 ht
   have s3 := cell_below' q3 hb
   clear hb R2 q3
   rcases ht with ⟨hz,rfl⟩ | ⟨k,pb,hk,hc,h0,rfl,hx,hy⟩
   ·have HZ := hid1 hz
    clear hz
    go_wp2_with fail
    refine (H2.out _ g3 w.heap.size R3.out).mono ?_
    rintro e w4 ⟨u,rfl,hb,ht⟩
    have g4 := below_then g3 hb
    have T4 := hid1 ht
    clear ht hb
    go_wp2_with fail
    refine (HB.out _ g4 _ _ _ T4.out).mono ?_
    rintro e w5 ⟨rfl,hb⟩
    have g5 := below_then g4 hb
    go_wp2
    go_ret
    refine ⟨?_,g5⟩
    have hP0 := HFP.out
    rw [Ru.firstC_none HZ.out] at hP0
    rw [HF.out,HFT.out]
    split at hP0
    ·cases hP0
    ·rename_i hne
     rw [if_neg hne]
     rfl
   ·have HK2 := hid1 (Ru.firstC_some hk hc h0)
    have HC2 := hid1 hc
    clear hk hc h0 hx hy
    go_wp2_with fail
    refine (HB.out _ g3 _ _ _ T.out).mono ?_
    rintro e w5 ⟨rfl,hb⟩
    have g5 := below_then g3 hb
    go_wp2
    go_ret
    refine ⟨?_,g5⟩
    have hP0 := HFP.out
    rw [HK2.out] at hP0 ⊢
    rw [HF.out]
    split at hP0
    ·rename_i hne
     rw [if_pos hne,hP0]
     rfl
    ·exact absurd hP0 HC2.out
end Go.Proofs.YtdljhggillgpfaaGreatDoor
namespace Go.Proofs.YtdljhggillgpfaaGreatDoor
open Go.RowKit Go.Shelf Go.Lib
theorem RRow.take {w : World} {p : Option Addr} {cap : Nat} {l : List Ru} (h : RRow w (.slice p l.length cap) l) (k : Nat) (hk : k ≤ l.length) : RRow w (.slice p k cap) (l.take k) := by
 obtain ⟨p',cap',e,h0,hn,h1⟩ := h
 obtain ⟨rfl,rfl⟩ : p = p' ∧ cap = cap' := by simpa using e
 have hl : (l.take k).length = k := by simp;omega
 refine ⟨p,cap,by rw [hl],by omega,hn,fun hne => ?_⟩
 obtain ⟨g,o,e,hg,hc⟩ := h1 (by intro e;rw [e] at hne;simp at hne)
 refine ⟨g,o,e,hg,fun j hj => ?_⟩
 rw [List.getElem_take]
 exact hc j (by omega)
theorem indexFuncR_calls {w : World} (v : Value) (l : List Ru) (hrow : RRow w v l) (hl : l.length ≤ 1000000) (f : Nat) (caps : Array Value) (eg : ∀ args w,(callFunc f args).run Tryz.prog w = .ok (.enter f args) w) (b : Nat → Bool)
  (HS : Hid (∀ k (hk : k < l.length) W,Below w.heap.size w W → ∀ u,XRow W u l[k].ins → Calls Tryz.prog f (#[ruV l[k] u] ++ caps) W fun e w' => e = .returned (.bool (b k)) ∧ Below W.heap.size W w')) :
  Calls Tryz.prog 189 #[v,.func (.func f) #[] caps] w fun e w' => ∃ r : Int,e = .returned (.int .i64 r) ∧ Below w.heap.size w w' ∧ ((r = -1 ∧ ∀ j,j < l.length → b j = false) ∨ ∃ k : Nat,r = k ∧ k < l.length ∧ b k = true) := by
 obtain ⟨p,cap,rfl,hcap,_,hin⟩ := hrow
 have HI := hid1 hin
 go_enter Tryz.func189,Tryz.ntmps189
 go_wp2
 go_loopw [8] (fun i wr => ∃ k : Nat,k ≤ l.length ∧ i = .int .i64 k ∧ (∀ j,j < k → b j = false) ∧ Below w.heap.size w wr) (fun i _ => l.length - (intOf i).toNat)
 case atStart => exact ⟨0,Nat.zero_le _,rfl,fun j h => by omega,Below.refl _ _⟩
 case round =>
  obtain ⟨k,hk,rfl,hz,hB⟩ := hrel
  have HZ := hid1 hz
  have c0 : (0 : Int) ≤ (k : Int) := by omega
  by_cases hlt : k < l.length
  ·have c1 : (k : Int) < (l.length : Int) := by omega
   obtain ⟨g',o,rfl,hg,hcur⟩ := HI.out (by intro e;rw [e] at hlt;simp at hlt)
   obtain ⟨u0,u1,u2,u,u3,ux⟩ := hcur k hlt
   have d0 := cell_below' u0 hB
   have d1 := cell_below' u1 hB
   have d2 := cell_below' u2 hB
   have d3 := cell_below' u3 hB
   have HC := HS.out k hlt wr hB u (ux.below hB)
   have HQ := hid1 ux
   generalize l[k] = y at *
   obtain ⟨p3,cap3,rfl,_⟩ := HQ.out
   cases hc : b k with
   | false =>
    rw [hc] at HC
    have HN : Hid (∀ j,j < k + 1 → b j = false) := hid1 fun j hj => by
     rcases Nat.lt_or_ge j k with h | h
     ·exact HZ.out j h
     ·obtain rfl : j = k := by omega
      exact hc
    go_wp2_with fail
    refine Calls.mono HC ?_
    rintro e w1 ⟨rfl,hb1⟩
    go_wp2
    exact ⟨⟨k + 1,by omega,by go_num,HN.out,below_then hB hb1⟩,by simp [intOf];omega⟩
   | true =>
    rw [hc] at HC
    have HE := hid1 hc
    go_wp2_with fail
    refine Calls.mono HC ?_
    rintro e w1 ⟨rfl,hb1⟩
    go_wp2
    go_ret
    exact ⟨_,rfl,below_then hB hb1,.inr ⟨k,rfl,hlt,HE.out⟩⟩
  ·have c1 : (l.length : Int) ≤ (k : Int) := by omega
   have HN : Hid (∀ j,j < l.length → b j = false) := hid1 fun j hj => HZ.out j (by omega)
   go_wp2
   go_ret
   exact ⟨_,rfl,hB,.inl ⟨rfl,HN.out⟩⟩
theorem containsFuncR_calls {w : World} (v : Value) (l : List Ru) (hrow : RRow w v l) (hl : l.length ≤ 1000000) (f : Nat) (caps : Array Value) (eg : ∀ args w,(callFunc f args).run Tryz.prog w = .ok (.enter f args) w) (b : Nat → Bool)
  (HS : Hid (∀ k (hk : k < l.length) W,Below w.heap.size w W → ∀ u,XRow W u l[k].ins → Calls Tryz.prog f (#[ruV l[k] u] ++ caps) W fun e w' => e = .returned (.bool (b k)) ∧ Below W.heap.size W w')) :
  Calls Tryz.prog 141 #[v,.func (.func f) #[] caps] w fun e w' => ∃ d : Bool,e = .returned (.bool d) ∧ Below w.heap.size w w' ∧ (d = true ↔ ∃ k,k < l.length ∧ b k = true) := by
 have HC := hid1 (indexFuncR_calls v l hrow hl f caps eg b HS)
 obtain ⟨p,cap,rfl,hcap,_,hin⟩ := hrow
 go_enter Tryz.func141,Tryz.ntmps141
 go_wp2_with fail
 refine HC.out.mono ?_
 rintro e w1 ⟨r,rfl,hb,h⟩
 rcases h with ⟨rfl,h⟩ | ⟨k,rfl,hk,h⟩
 ·have HN := hid1 h
  go_wp2
  go_ret
  refine ⟨_,rfl,hb,?_⟩
  simp
  intro k hk
  simpa using HN.out k hk
 ·have HN := hid1 h
  have z : (0 : Int) ≤ (k : Int) := by omega
  go_wp2
  go_ret
  refine ⟨true,rfl,hb,?_⟩
  simp
  exact ⟨k,hk,HN.out⟩
theorem ruSheet11_calls {w : World} (x r : Ru) (b : Nat) (u : Value) (hu : XRow w u x.ins) (hR : w.cell? ⟨b,0,none⟩ = some (.string (ba r.out))) :
  Calls Tryz.prog 142 #[ruV x u,.pointer (some ⟨b,0,none⟩)] w fun e w' => e = .returned (.bool (x.out == r.out)) ∧ Below w.heap.size w w' := by
 have hB0 : Below w.heap.size w (w.alloc (.cells #[.string (ba x.out),.string (ba x.kind),.string (ba x.word),u] 36)) := (Below.refl _ w).alloc (Nat.le_refl _) _
 have h0 := cell_below' hR hB0
 obtain ⟨p3,cap3,rfl,_⟩ := hu
 go_enter Tryz.func142,Tryz.ntmps142
 go_wp2
 go_ret
 exact ⟨rfl,hB0⟩
structure SheetW (w : World) (es : Nat → Addr) : Prop where
 e : ES w es
 a : AE w (erOf es)
theorem SheetW.below {w W : World} {es : Nat → Addr} (h : SheetW w es) (hb : Below w.heap.size w W) : SheetW W es := ⟨h.e.below hb,h.a.stays hb⟩
theorem ruSheet1_calls {w : World} {es : Nat → Addr} (hW : SheetW w es) (l : List Ru) (hl : l.length ≤ 1000000) (v : Value) (hrow : RRow w v l) (hS : ∀ x ∈ l,x.Wide) (b k : Nat) (hk : k < l.length) (hb : w.cell? ⟨b,0,none⟩ = some v) (u : Value) (hu : XRow w u l[k].ins) :
  Calls Tryz.prog 139 #[.int .i64 k,ruV l[k] u,.pointer (some ⟨b,0,none⟩)] w fun e w' => e = .returned (erOf es (Ru.errAt l k)) ∧ Below w.heap.size w w' := by
 have HQ := hid1 (Ru.errAt_eq hk)
 have HC := hid1 fun W (g : Below w.heap.size w W) => ruCheck_calls (hW.e.below g) (hW.a.stays g) l[k] (hS _ (List.getElem_mem hk)) u (hu.below g)
 have hB0 : Below w.heap.size w (w.alloc (.cells #[.string (ba l[k].out),.string (ba l[k].kind),.string (ba l[k].word),u] 36)) := (Below.refl _ w).alloc (Nat.le_refl _) _
 have hr0 : (w.alloc (.cells #[.string (ba l[k].out),.string (ba l[k].kind),.string (ba l[k].word),u] 36)).cell? ⟨w.heap.size,0,none⟩ = some (.string (ba l[k].out)) := by simp
 have hx := hW.e.c6
 obtain ⟨p,cap,rfl,hcap,hnn,hin⟩ := hrow
 have hrow : RRow w (.slice p l.length cap) l := ⟨p,cap,rfl,hcap,hnn,hin⟩
 have HF := hid1 fun W (g : Below w.heap.size w W) (hr : W.cell? ⟨w.heap.size,0,none⟩ = some (.string (ba l[k].out))) =>
  containsFuncR_calls (.slice p k cap) (l.take k) ((hrow.below g).take k (by omega)) (by simp;omega) 142 #[.pointer (some ⟨w.heap.size,0,none⟩)] (enters_of Tryz.func142 (by kernel_rfl) rfl) (fun j => (l.getD j l[k]).out == l[k].out)
   (hid1 fun j hj W' g' u' hu' => by
    have hjl : j < l.length := by simp at hj;omega
    have := ruSheet11_calls (l.take k)[j] l[k] w.heap.size u' hu' (cell_below' hr g')
    rw [List.getElem_take] at this ⊢
    rw [List.getD_eq_getElem?_getD,List.getElem?_eq_getElem hjl,Option.getD_some]
    exact this)
 have HM : Hid (∀ d : Bool,(d = true ↔ ∃ j,j < (l.take k).length ∧ ((l.getD j l[k]).out == l[k].out) = true) → (if l[k].out ∈ (l.take k).map Ru.out then 7 else 0) = (if d = true then 7 else 0)) := hid1 fun d hd => by
  congr 1
  rw [eq_iff_iff,hd]
  constructor
  ·intro h
   obtain ⟨x,hx,e⟩ := List.mem_map.1 h
   obtain ⟨j,hj,rfl⟩ := List.getElem_of_mem hx
   refine ⟨j,hj,?_⟩
   rw [List.getElem_take] at e
   rw [List.getD_eq_getElem?_getD,List.getElem?_eq_getElem (by simp at hj;omega),Option.getD_some,e]
   simp
  ·rintro ⟨j,hj,e⟩
   have hjl : j < l.length := by simp at hj;omega
   rw [List.getD_eq_getElem?_getD,List.getElem?_eq_getElem hjl,Option.getD_some] at e
   refine List.mem_map.2 ⟨(l.take k)[j],List.getElem_mem hj,?_⟩
   rw [List.getElem_take]
   simpa using e
 have z1 : (k : Int) ≤ (cap : Int) := by omega
 have z0 : (0 : Int) ≤ (k : Int) := by omega
 have z2 : (k : Int) ≤ 1000000 := by omega
 have hbl := lt_of_cell hb
 simp only at hbl
 obtain ⟨p3,cap3,rfl,_⟩ := hu
 clear hin hrow hnn hS hW
 generalize l[k] = r at *
 generalize hn : l.length = n at *
 cases hc : r.err with
 | succ m =>
  have HE : Hid (Ru.errAt l k = m + 1) := hid1 (by rw [HQ.out,hc];rfl)
  rw [HE.out]
  rw [hc] at HC
  simp only [erOf] at HC ⊢
  clear HF HM
  go_enter Tryz.func139,Tryz.ntmps139
  go_wp2_with fail
  refine (HC.out _ hB0).mono ?_
  rintro e w1 ⟨rfl,g⟩
  have g1 := below_then hB0 g
  go_wp2
  go_ret
  exact ⟨rfl,g1⟩
 | zero =>
  have HE : Hid (Ru.errAt l k = if r.out ∈ (l.take k).map Ru.out then 7 else 0) := hid1 (by rw [HQ.out,hc];rfl)
  rw [HE.out]
  rw [hc] at HC
  simp only [erOf] at HC
  have HM2 := hid1 fun d hd => congrArg (erOf es) (HM.out d hd)
  generalize erOf es (if r.out ∈ (l.take k).map Ru.out then 7 else 0) = rv at *
  clear HM HE HQ
  go_enter Tryz.func139,Tryz.ntmps139
  go_wp2_with fail
  refine (HC.out _ hB0).mono ?_
  rintro e w1 ⟨rfl,g⟩
  have g1 := below_then hB0 g
  have hr1 := cell_below' hr0 g
  have hb1 := cell_below' hb g1
  clear g hr0 hb
  go_wp2_with fail
  refine (HF.out _ g1 hr1).mono ?_
  rintro e w2 ⟨d,rfl,g,hd⟩
  have g2 := below_then g1 g
  have hx2 := cell_below' hx g2
  have HV := hid1 (HM2.out d hd)
  clear g hd HF HM2 hx
  cases d with
  | true =>
   go_wp2
   go_ret
   exact ⟨ret_eq (by rw [HV.out];rfl),g2⟩
  | false =>
   go_wp2
   go_ret
   exact ⟨ret_eq (by rw [HV.out];rfl),g2⟩
end Go.Proofs.YtdljhggillgpfaaGreatDoor
