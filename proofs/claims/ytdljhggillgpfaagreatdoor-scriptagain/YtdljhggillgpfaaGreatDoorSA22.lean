import Derived.Test.YtdljhggillgpfaaGreatDoorSA21
set_option maxRecDepth 100000
set_option maxHeartbeats 8000000
namespace Go.Proofs.YtdljhggillgpfaaGreatDoor
open Go.RowKit Go.Shelf Go.Lib Go.Maps
theorem buall_calls {W : World} {bb bm : Nat} (c0 : W.cell? ⟨bb,0,none⟩ = some (.map (some bm))) : Calls Tryz.prog 199 #[Ptr bb] W fun e w' => e = .returned (.map (some bm)) ∧ w' = W := by
 go_enter Tryz.func199,Tryz.ntmps199
 go_wp2
 go_ret
 exact ⟨rfl,rfl⟩
theorem ranges_below {w w' : World} {k : TypeId} {R : Value → Option (DataW Unit × List MemPlace)} {b r n : Nat} {D : DataW Unit} {left : Lit → Bool} {cnt : Nat} (h : w.ranges Tryz.prog k R b r n D left cnt) (hb : Below w.heap.size w w') : w'.ranges Tryz.prog k R b r n D left cnt := by
 have h1 := h.owns.lt
 have h2 := h.lt
 obtain ⟨es,clock,since,seen,c0,hb',F,hs,hD,hr,rest⟩ := h
 exact ⟨es,clock,since,seen,c0,(hb.block b h1).trans hb',F,hs,hD,(hb.block r h2).trans hr,rest⟩
theorem ownsRow_mono {w : World} {B B' : Nat} {e : TypeId} {s n : Nat} {v : Value} {xs : List Value} (h : w.ownsRow B e s v n xs) (hB : B' ≤ B) : w.ownsRow B' e s v n xs := by
 refine ⟨h.1,?_⟩
 rcases h.2 with h1 | ⟨g,cap,cur,h1,h2,h3⟩
 ·exact .inl h1
 ·exact .inr ⟨g,cap,cur,h1,Nat.le_trans hB h2,h3⟩
structure Chosen (D : DataW Unit) (dm b : Nat → Bool) (left : Lit → Bool) (cs : List Nat) : Prop where
 sub : ∀ z,left z = true → has D z = true
 mem : ∀ k : Nat,k ∈ cs ↔ dm k = true ∧ left (.int .i64 (k : Nat)) = false ∧ b k = true
 once : cs.Nodup
theorem Chosen.start {D : DataW Unit} {dm b : Nat → Bool} (hD : ∀ i : Int,has D (.int .i64 i) = true ↔ 0 ≤ i ∧ dm i.toNat = true) : Chosen D dm b (has D) [] := by
 refine ⟨fun _ h => h,fun k => ?_,List.nodup_nil⟩
 have := hD (k : Nat)
 simp only [Int.toNat_natCast] at this
 constructor
 ·intro h;cases h
 ·rintro ⟨h1,h2,_⟩
  rw [this.2 ⟨by omega,h1⟩] at h2
  cases h2
theorem Chosen.step {D : DataW Unit} {dm b : Nat → Bool} {left : Lit → Bool} {cs : List Nat} (h : Chosen D dm b left cs) {k : Nat} (hd : dm k = true) (hl : left (.int .i64 (k : Nat)) = true) : Chosen D dm b (fun z => left z && !z.sameKey (.int .i64 (k : Nat))) (cs ++ (if b k = true then [k] else [])) := by
 have hk : WideAt.IsKeyLit (.int .i64 (k : Nat)) := by simp [WideAt.IsKeyLit]
 have hnk : k ∉ cs := fun e => by
  have := ((h.mem k).1 e).2.1
  rw [hl] at this
  cases this
 refine ⟨fun z hz => h.sub z (by rw [Bool.and_eq_true] at hz;exact hz.1),fun j => ?_,?_⟩
 ·rw [List.mem_append,h.mem]
  by_cases e : j = k
  ·subst e
   have h1 : (left (.int .i64 (j : Nat)) && !(Lit.int .i64 (j : Nat)).sameKey (.int .i64 (j : Nat))) = false := by
    rw [WideAt.sameKey_self hk,hl]
    rfl
   rw [h1,hl]
   by_cases hb : b j = true
   ·simp [hb,hd]
   ·simp [hb]
  ·have h1 : (Lit.int .i64 (j : Nat)).sameKey (.int .i64 (k : Nat)) = false := Maps.sameKey_ne (by simp;omega)
   rw [h1]
   constructor
   ·rintro (h2 | h2)
    ·simpa using h2
    ·split at h2
     ·exact absurd (List.mem_singleton.1 h2) e
     ·cases h2
   ·intro h2
    exact .inl (by simpa using h2)
 ·split
  ·rw [List.nodup_append]
   exact ⟨h.once,by simp,fun a ha c hc => by
    rw [List.mem_singleton.1 hc]
    rintro rfl
    exact hnk ha⟩
  ·simpa using h.once
theorem Chosen.done {D : DataW Unit} {dm b : Nat → Bool} {left : Lit → Bool} {cs : List Nat} (h : Chosen D dm b left cs) (h0 : ∀ z,left z = false) {N : Nat} (hN : ∀ k,dm k = true → k < N) : (cs.mergeSort fun x y => decide (x ≤ y)) = (List.range N).filter fun k => dm k && b k := by
 refine List.Perm.eq_of_pairwise (le := fun a b => a ≤ b) (fun a b _ _ h1 h2 => Nat.le_antisymm h1 h2) (sorted_le cs) ?_ ?_
 ·have : (List.range N).Pairwise (fun a b => a ≤ b) := (List.pairwise_lt_range (n := N)).imp fun h => Nat.le_of_lt h
  exact this.filter _
 ·refine (List.mergeSort_perm _ _).trans ?_
  rw [List.perm_ext_iff_of_nodup h.once (List.Pairwise.filter _ List.nodup_range)]
  intro k
  rw [h.mem,List.mem_filter,List.mem_range,Bool.and_eq_true,h0]
  constructor
  ·rintro ⟨h1,_,h2⟩
   exact ⟨hN k h1,h1,h2⟩
  ·rintro ⟨_,h1,h2⟩
   exact ⟨h1,rfl,h2⟩
theorem Chosen.len {D : DataW Unit} {dm b : Nat → Bool} {left : Lit → Bool} {cs : List Nat} (h : Chosen D dm b left cs) {N : Nat} (hN : ∀ k,dm k = true → k < N) : cs.length ≤ N := by
 exact len_le h.once fun k hk => hN k ((h.mem k).1 hk).1
theorem bunumbers_calls {W : World} {bb bm n N : Nat} {dm : Nat → Bool} {sp : Nat → Nat} (c0 : W.cell? ⟨bb,0,none⟩ = some (.map (some bm))) (hm : SMap W bm n (fun k => dm k = true) sp) (hN : ∀ k,dm k = true → k < N) (hN2 : N ≤ 1000) (f : Nat) (caps : Array Value) (eg : ∀ args w,(callFunc f args).run Tryz.prog w = .ok (.enter f args) w) (b : Nat → Bool)
  (HF : Hid (∀ k,dm k = true → ∀ V,Below W.heap.size W V → Calls Tryz.prog f (#[Ptr (sp k)] ++ caps) V fun e w' => e = .returned (.bool (b k)) ∧ Below V.heap.size V w')) :
  Calls Tryz.prog 196 #[Ptr bb,.func (.func f) #[] caps] W fun e w' => ∃ u,e = .returned u ∧ NIRow w' u ((List.range N).filter fun k => dm k && b k) ∧ Below W.heap.size W w' := by
 obtain ⟨D,hown,h3,h4⟩ := hm
 have HC := hid1 (buall_calls c0)
 have HN := hid1 hN
 have H3 := hid1 h3
 have H4 := hid1 h4
 have hbl := hown.lt
 obtain ⟨i0,hi,hz0,hz1,hz2⟩ := info_parts Tryz.infoInt
 go_enter Tryz.func196,Tryz.ntmps196
 go_wp2_with fail
 refine HC.out.mono ?_
 rintro e w1 ⟨rfl,rfl⟩
 go_wp2_with (first
  | (at_range;refine wpList_range_own _ rfl _ 222 rfl 3 262 ilaw Tryz.underlying222 stepElem bm n D rfl hown ?_;intro w0 hrg0 hg0 hs0)
  | go_in)
 go_frame
 have g3 : Below w1.heap.size w1 w0 := (Below.refl _ w1).grown hg0 (Nat.le_refl _) (fun _ e => by cases e)
 have hz0' : w1.heap.size + 1 ≤ w0.heap.size := by omega
 have HS0 := hid1 (Chosen.start (b := b) H3.out)
 have HR0 := hid1 hrg0
 go_loopw [5] (fun lv wr => ∃ (left : Lit → Bool) (cnt : Nat) (cs : List Nat),wr.ranges Tryz.prog 3 stepElem bm w1.heap.size n D left cnt ∧ Chosen D dm b left cs ∧ wr.ownsRow (w1.heap.size + 1) 3 1 lv cs.length (cs.map nv) ∧ Below w1.heap.size w1 wr ∧ w1.heap.size + 1 ≤ wr.heap.size)
  (fun _ wr => wr.rangeLeft bm w1.heap.size)
 case atStart => exact ⟨_,_,[],HR0.out,HS0.out,World.ownsRow_nil _ _ _ _,g3,hz0'⟩
 case round =>
  obtain ⟨left,cnt,cs,hrg,hcl,hrow,hB,hz⟩ := hrel
  have HCh := hid1 hcl
  have hlen := hcl.len HN.out
  go_wp2_with (first
   | (at_next;refine wpList_next_ranges _ rfl _ rfl 3 ilaw stepElem (Value.int .i64) stepP (fun key kl hk => by obtain ⟨x,rfl,_⟩ := Maps.keyOf_int_inv Tryz.underlying3 hk;exact ⟨x,rfl⟩) stepElem_inv bm w1.heap.size n _ _ _ rfl hrg ?_ ?_)
   | go_in)
  ·intro _ hl0
   have HD := hid1 (HCh.out.done hl0 HN.out)
   have HSo := hid1 (sortI_calls hz u5 cs (by omega) hrow)
   obtain ⟨p5,c5,rfl⟩ := own_val hrow
   go_wp2_with fail
   refine HSo.out.mono ?_
   rintro e w3 ⟨rfl,hni,g3'⟩
   have HNI : Hid (NIRow w3 (.slice p5 cs.length c5) ((List.range N).filter fun k => dm k && b k)) := hid1 (by rw [← HD.out];exact hni)
   have HB3 : Hid (Below w1.heap.size w1 w3) := hid1 (hB.trans (g3'.mono (Nat.le_succ _)))
   go_wp2
   go_ret
   exact ⟨_,rfl,HNI.out,HB3.out⟩
  ·intro x c kl yd yp w2 cnt2 hkey hlk hv hat hrg2 hlt hg2 hs2 hen
   obtain ⟨x',ex,rfl,_⟩ := Maps.keyOf_int_inv Tryz.underlying3 hkey
   obtain rfl : x = x' := by simpa using ex
   have hx := (H3.out x).1 (HCh.out.sub _ hlk)
   obtain ⟨k,rfl⟩ : ∃ k : Nat,x = k := ⟨x.toNat,by omega⟩
   rw [Int.toNat_natCast] at hx
   have hck : c = some (sp k) := by
    have h1 := H4.out k hx.2 (.lit (.int .i64 0))
    rw [hat] at h1
    rw [stepElem_mk] at hv
    have h2 : (DataW.lit (.int .i64 (stepI c)) : DataW Unit) = yd := by simpa using congrArg (fun o => o.map Prod.fst) hv
    rw [← h2] at h1
    exact stepI_inj (by simpa [stepI] using h1)
   subst hck
   have HCh2 := hid1 (HCh.out.step hx.2 hlk)
   have hB2 : Below w1.heap.size w1 w2 := hB.grown hg2 hB.size (fun j e => by cases e;exact Nat.le_refl _)
   have hrow2 := hrow.kept hg2 (.inr (fun e => by have := (own_lt hrow _ e).1;omega))
   have HR2 := hid1 hrg2
   have hz2' : w1.heap.size + 1 ≤ w2.heap.size := by omega
   have hm1 := hrg.left_eq
   have HCa := HF.out k hx.2 w2 hB2
   have HLt : Hid (cnt2 < cnt) := hid1 hlt
   cases hb : b k with
   | false =>
    rw [hb] at HCa HCh2
    simp only [Bool.false_eq_true,if_false,List.append_nil] at HCh2
    go_wp2_with fail
    refine Calls.mono HCa ?_
    rintro e w4 ⟨rfl,g4⟩
    have HR4 := hid1 (ranges_below HR2.out g4)
    have HW4 := hid1 (own_below hrow2 g4)
    have HB4 := hid1 (below_then hB2 g4)
    have hz4 := g4.size
    go_wp2
    exact ⟨⟨_,_,cs,HR4.out,HCh2.out,HW4.out,HB4.out,by omega⟩,by rw [HR4.out.left_eq,hm1];exact HLt.out⟩
   | true =>
    rw [hb] at HCa HCh2
    simp only [if_true] at HCh2
    go_wp2_with fail
    refine Calls.mono HCa ?_
    rintro e w4 ⟨rfl,g4⟩
    have HR4 := hid1 (ranges_below HR2.out g4)
    have hrow4 := own_below hrow2 g4
    have HB4 := hid1 (below_then hB2 g4)
    have hz4 := g4.size
    have hml : cs.length + 1 ≤ maxLen := by unfold maxLen;omega
    have hbz : w1.heap.size + 1 ≤ w4.heap.size := by omega
    have HNe : Hid (u5.ownBlock ≠ some bm ∧ u5.ownBlock ≠ some w1.heap.size) := hid1 ⟨fun e => by have := (own_lt hrow4 _ e).1;omega,fun e => by have := (own_lt hrow4 _ e).1;omega⟩
    have HOw := hid1 hrow4
    go_wp2_with (first
     | (at_builtin;refine wpList_append_own _ rfl _ _ 147 rfl (w1.heap.size + 1) 3 i0 (.int .i64 0) 1 8 Tryz.underlying147 hi hz0 hz1 hz2 rfl (by decide) _ _ _ rfl (hrow4.alloc _) ⟨w4.heap.size,0,none⟩ 1 1 [nv k] rfl rfl (cell_one_new _ _ _) (by simp [Value.oneCell']) hml (by omega) (by simp;omega) ?_;intro v' w5 hown' hgrow _)
     | fail)
    have HR5 := hid1 ((HR4.out.alloc (.cells #[nv k] 3)).kept hgrow (fun e => HNe.out.1 e.symm) (fun e => HNe.out.2 e.symm))
    have hB5 := below_appended HB4.out (by omega) (ownsRow_mono HOw.out (Nat.le_succ _)) hgrow
    have hz5 := hgrow.size
    have hz5' : w1.heap.size + 1 ≤ w5.heap.size := by simp at hz5;omega
    exact ⟨⟨_,_,cs ++ [k],HR5.out,HCh2.out,by rw [List.length_append,List.map_append];exact hown',hB5,hz5'⟩,by rw [HR5.out.left_eq,hm1];exact HLt.out⟩
end Go.Proofs.YtdljhggillgpfaaGreatDoor
namespace Go.Proofs.YtdljhggillgpfaaGreatDoor
namespace Bf
structure Inv (d : Bd) : Prop where
 out : ∀ i,d.l.length ≤ i → d.st i = .no
 need : ∀ i k,Ru.needs d.l i k = true → (d.st i).isNo = false → (d.st k).isNo = false
 ran : ∀ i k,Ru.needs d.l i k = true → ((d.st i).isDone || (d.st i).isFailed) = true → (d.st k).isDone = true
 bad : ∀ i k,Ru.needs d.l i k = true → (d.st k).isBad = true → (d.st i).isNo = false → d.st i = .left
theorem Inv.init {d : Bd} (h1 : ∀ i,d.l.length ≤ i → d.st i = .no) (h2 : ∀ i k,Ru.needs d.l i k = true → (d.st i).isNo = false → (d.st k).isNo = false) (h3 : ∀ i,d.st i = .no ∨ d.st i = .waits) : Inv d := by
 refine ⟨h1,h2,fun i k _ h => ?_,fun i k _ h => ?_⟩
 ·rcases h3 i with e | e <;> rw [e] at h <;> cases h
 ·rcases h3 k with e | e <;> rw [e] at h <;> cases h
theorem Inv.set {d : Bd} (h : Inv d) {i : Nat} (hr : d.isReady i = true) (s : List UInt8) (b : Bool) : Inv (d.set i (.done s b)) := by
 have hw := ready_waits hr
 have hil : i < d.l.length := Nat.lt_of_not_le fun e => by have := h.out i e;rw [hw] at this;cases this
 have hno : ∀ k,(setS d.st i (.done s b) k).isNo = (d.st k).isNo := fun k => by
  by_cases e : k = i
  ·rw [e,setS_same,hw];rfl
  ·rw [setS_other e]
 refine ⟨fun k hk => ?_,fun a k hn ha => ?_,fun a k hn ha => ?_,fun a k hn hb ha => ?_⟩
 ·show setS d.st i _ k = _
  rw [setS_other (by have : d.l.length ≤ k := hk;omega)]
  exact h.out k hk
 ·have ha' : (setS d.st i (.done s b) a).isNo = false := ha
  show (setS d.st i (.done s b) k).isNo = false
  rw [hno] at ha' ⊢
  exact h.need a k hn ha'
 ·show (setS d.st i (.done s b) k).isDone = true
  by_cases ek : k = i
  ·rw [ek,setS_same];rfl
  ·rw [setS_other ek]
   by_cases ea : a = i
   ·subst ea
    exact ready_free hr (Ru.needs_lt hn).2 hn
   ·have ha' : ((setS d.st i (.done s b) a).isDone || (setS d.st i (.done s b) a).isFailed) = true := ha
    rw [setS_other ea] at ha'
    exact h.ran a k hn ha'
 ·have hb' : (setS d.st i (.done s b) k).isBad = true := hb
  have ha' : (setS d.st i (.done s b) a).isNo = false := ha
  show setS d.st i (.done s b) a = .left
  rw [hno] at ha'
  by_cases ek : k = i
  ·rw [ek,setS_same] at hb';cases hb'
  ·rw [setS_other ek] at hb'
   have := h.bad a k hn hb' ha'
   rw [setS_other fun e => by rw [e,hw] at this;cases this]
   exact this
inductive Up (us : Nat → List Nat) (s : Nat) : Nat → Prop
 | one {k : Nat} : k ∈ us s → Up us s k
 | more {j k : Nat} : Up us s j → k ∈ us j → Up us s k
theorem Up.trans {us : Nat → List Nat} {s u : Nat} (hu : u ∈ us s) : ∀ {k : Nat},Up us u k → Up us s k
 | _,.one h => .more (.one hu) h
 | _,.more h h' => .more (Up.trans hu h) h'
structure Leave (us : Nat → List Nat) (s : Nat) (ms : List Nat) (a b : Nat → St) : Prop where
 only : ∀ k,b k = a k ∨ ((a k).isLeft = false ∧ b k = .left ∧ Up us s k)
 closed : ∀ j,(a j).isLeft = false → b j = .left → ∀ k ∈ us j,b k = .left
 first : ∀ k ∈ ms,b k = .left
theorem St.left_eq {s : St} (h : s.isLeft = true) : s = .left := by cases s <;> first | rfl | cases h
theorem Leave.start (us : Nat → List Nat) (s : Nat) (a : Nat → St) : Leave us s [] a a := ⟨fun _ => .inl rfl,fun j h e => (by rw [e] at h;cases h),fun k hk => (by cases hk)⟩
theorem Leave.skip {us : Nat → List Nat} {s : Nat} {ms : List Nat} {a b : Nat → St} (h : Leave us s ms a b) {u : Nat} (hu : b u = .left) : Leave us s (ms ++ [u]) a b :=
 ⟨h.only,h.closed,fun k hk => by
  rcases List.mem_append.1 hk with h1 | h1
  ·exact h.first k h1
  ·rw [List.mem_singleton.1 h1];exact hu⟩
theorem Leave.mono {us : Nat → List Nat} {s : Nat} {ms : List Nat} {a b : Nat → St} (h : Leave us s ms a b) {k : Nat} (hk : a k = .left) : b k = .left := by
 rcases h.only k with e | ⟨_,e,_⟩
 ·rw [e,hk]
 ·exact e
theorem Leave.go {us : Nat → List Nat} {s : Nat} {ms : List Nat} {a b c : Nat → St} (h : Leave us s ms a b) {u : Nat} (hu : u ∈ us s) (hn : (b u).isLeft = false) (h' : Leave us u (us u) (setS b u .left) c) : Leave us s (ms ++ [u]) a c := by
 have hun : (a u).isLeft = false := by
  rcases h.only u with e | ⟨e,_,_⟩
  ·rw [← e];exact hn
  ·exact e
 have hcu : c u = .left := h'.mono (setS_same _ _ _)
 have hm : ∀ k,b k = .left → c k = .left := fun k hk => by
  by_cases e : k = u
  ·rw [e];exact hcu
  ·exact h'.mono (by rw [setS_other e];exact hk)
 refine ⟨fun k => ?_,fun j hj hc k hk => ?_,fun k hk => ?_⟩
 ·by_cases e : k = u
  ·subst e
   exact .inr ⟨hun,hcu,.one hu⟩
  ·rcases h'.only k with e1 | ⟨e1,e2,e3⟩
   ·rw [setS_other e] at e1
    rw [e1]
    exact h.only k
   ·rw [setS_other e] at e1
    refine .inr ⟨?_,e2,e3.trans hu⟩
    rcases h.only k with e4 | ⟨e4,_,_⟩
    ·rw [← e4];exact e1
    ·exact e4
 ·by_cases e : j = u
  ·subst e
   exact h'.first k hk
  ·cases hb : (b j).isLeft with
   | true => exact hm k (h.closed j hj (St.left_eq hb) k hk)
   | false => exact h'.closed j (by rw [setS_other e];exact hb) hc k hk
 ·rcases List.mem_append.1 hk with h1 | h1
  ·exact hm k (h.first k h1)
  ·rw [List.mem_singleton.1 h1];exact hcu
def St.notLeft (s : St) : Bool := !s.isLeft
theorem Leave.fewer {us : Nat → List Nat} {s : Nat} {ms : List Nat} {a b : Nat → St} (h : Leave us s ms a b) {u n : Nat} (hu : u < n) (hn : (b u).isLeft = false) : many (setS b u .left) St.notLeft n < many a St.notLeft n := by
 have hun : (a u).isLeft = false := by
  rcases h.only u with e | ⟨e,_,_⟩
  ·rw [← e];exact hn
  ·exact e
 refine many_less hu (by unfold St.notLeft;rw [hun];rfl) (by rw [setS_same];rfl) fun k hk => ?_
 unfold St.notLeft at hk ⊢
 by_cases e : k = u
 ·rw [e,hun];rfl
 ·rw [setS_other e] at hk
  rcases h.only k with e1 | ⟨e1,_,_⟩
  ·rw [← e1];exact hk
  ·rw [e1];rfl
def UsOk (d : Bd) (us : Nat → List Nat) : Prop := ∀ i,(d.st i).isNo = false → ∀ k,k ∈ us i ↔ (d.st k).isNo = false ∧ Ru.needs d.l k i = true
theorem Inv.up {d : Bd} (h : Inv d) {us : Nat → List Nat} (hu : UsOk d us) {i : Nat} (hw : d.st i = .waits) : ∀ {k : Nat},Up us i k → (d.st k).isNo = false ∧ (d.st k = .waits ∨ d.st k = .left)
 | k,.one hk => by
  have h1 := (hu i (by rw [hw];rfl) k).1 hk
  refine ⟨h1.1,?_⟩
  have h2 := h.ran k i h1.2
  rw [hw] at h2
  cases hs : d.st k with
  | no => rw [hs] at h1;cases h1.1
  | waits => exact .inl rfl
  | done s b => rw [hs] at h2;cases h2 rfl
  | failed c => rw [hs] at h2;cases h2 rfl
  | left => exact .inr rfl
 | k,@Up.more _ _ j _ hj hk => by
  have h0 := h.up hu hw hj
  have h1 := (hu j h0.1 k).1 hk
  refine ⟨h1.1,?_⟩
  have h2 := h.ran k j h1.2
  have h3 : (d.st j).isDone = false := by rcases h0.2 with e | e <;> rw [e] <;> rfl
  rw [h3] at h2
  cases hs : d.st k with
  | no => rw [hs] at h1;cases h1.1
  | waits => exact .inl rfl
  | done s b => rw [hs] at h2;cases h2 rfl
  | failed c => rw [hs] at h2;cases h2 rfl
  | left => exact .inr rfl
theorem Leave.spread {d : Bd} (hI : Inv d) {us : Nat → List Nat} (hu : UsOk d us) {i : Nat} (hr : d.isReady i = true) {c : Nat} {b : Nat → St} (h : Leave us i (us i) (setS d.st i (.failed c)) b) (k : Nat) (hk : (d.st k).isNo = false) : b k = Bf.spread d.l (setS d.st i (.failed c)) k := by
 have hw := ready_waits hr
 have hself : Ru.needs d.l i i = false := by
  rw [Bool.eq_false_iff]
  intro hn
  have := ready_free hr (Ru.needs_lt hn).2 hn
  rw [hw] at this
  cases this
 have hnot : ∀ k,Up us i k → k ≠ i := by
  intro k hk e
  subst e
  have : ∃ j,(d.st j).isDone = false ∧ Ru.needs d.l k j = true := by
   cases hk with
   | one h1 => exact ⟨k,by rw [hw];rfl,((hu k (by rw [hw];rfl) k).1 h1).2⟩
   | @more j _ hj h1 =>
    have h0 := hI.up hu hw hj
    exact ⟨j,by rcases h0.2 with e | e <;> rw [e] <;> rfl,((hu j h0.1 k).1 h1).2⟩
  obtain ⟨j,h1,h2⟩ := this
  rw [ready_free hr (Ru.needs_lt h2).2 h2] at h1
  cases h1
 have hup : ∀ k,Up us i k → (setS d.st i (.failed c) k).isLeft = false → Chain d.l (setS d.st i (.failed c)) k ∧ (setS d.st i (.failed c) k).isWaits = true := by
  intro k hk
  induction hk with
  | @one k hk =>
   intro hl
   have hne := hnot k (.one hk)
   have h1 := (hu i (by rw [hw];rfl) k).1 hk
   refine ⟨.one h1.2 (by rw [setS_same];rfl),?_⟩
   rw [setS_other hne] at hl ⊢
   rcases (hI.up hu hw (.one hk)).2 with e | e
   ·rw [e];rfl
   ·rw [e] at hl;cases hl
  | @more j k hj hk ih =>
   intro hl
   have hne := hnot k (.more hj hk)
   have hji := hnot j hj
   have h0 := hI.up hu hw hj
   have h1 := (hu j h0.1 k).1 hk
   rw [setS_other hne] at hl
   have hwk : d.st k = .waits := by
    rcases (hI.up hu hw (.more hj hk)).2 with e | e
    ·exact e
    ·rw [e] at hl;cases hl
   have hjl : (setS d.st i (.failed c) j).isLeft = false := by
    rw [setS_other hji]
    rcases h0.2 with e | e
    ·rw [e];rfl
    ·have := hI.bad k j h1.2 (by rw [e];rfl) h1.1
     rw [hwk] at this
     cases this
   obtain ⟨c1,c2⟩ := ih hjl
   exact ⟨.more h1.2 c2 c1,by rw [setS_other hne,hwk];rfl⟩
 have hdn : ∀ k,Chain d.l (setS d.st i (.failed c)) k → (d.st k).isNo = false → (setS d.st i (.failed c) k).isWaits = true → b k = .left := by
  intro k hk
  induction hk with
  | @one k j hn hb =>
   intro h1 h2
   have hki : k ≠ i := fun e => by rw [e,setS_same] at h2;cases h2
   rw [setS_other hki] at h2
   by_cases e : j = i
   ·subst e
    exact h.first k ((hu j (by rw [hw];rfl) k).2 ⟨h1,hn⟩)
   ·rw [setS_other e] at hb
    have := hI.bad k j hn hb h1
    rw [this] at h2
    cases h2
  | @more k j hn hwj hc ih =>
   intro h1 h2
   have hji : j ≠ i := fun e => by rw [e,setS_same] at hwj;cases hwj
   have hwj' := hwj
   rw [setS_other hji] at hwj'
   have hjn : (d.st j).isNo = false := by rw [St.waits_eq hwj'];rfl
   exact h.closed j (by rw [St.waits_eq hwj];rfl) (ih hjn hwj) k ((hu j hjn k).2 ⟨h1,hn⟩)
 by_cases hch : (setS d.st i (.failed c) k).isWaits = true ∧ Chain d.l (setS d.st i (.failed c)) k
 ·rw [hdn k hch.2 hk hch.1]
  unfold Bf.spread
  rw [if_pos hch]
 ·unfold Bf.spread
  rw [if_neg hch]
  rcases h.only k with e | ⟨e1,e2,e3⟩
  ·exact e
  ·have := hup k e3 e1
   exact absurd ⟨this.2,this.1⟩ hch
theorem spread_no (l : List Ru) (st : Nat → St) (k : Nat) : (Bf.spread l st k).isNo = (st k).isNo := by
 unfold Bf.spread
 split
 ·rename_i h
  rw [St.waits_eq h.1];rfl
 ·rfl
theorem spread_or (l : List Ru) (st : Nat → St) (k : Nat) : Bf.spread l st k = st k ∨ ((st k).isWaits = true ∧ Chain l st k ∧ Bf.spread l st k = .left) := by
 unfold Bf.spread
 split
 ·rename_i h
  exact .inr ⟨h.1,h.2,rfl⟩
 ·exact .inl rfl
theorem Inv.fail {d : Bd} (h : Inv d) {i : Nat} (hr : d.isReady i = true) (c : Nat) : Inv (d.fail i c) := by
 have hw := ready_waits hr
 have hil : i < d.l.length := Nat.lt_of_not_le fun e => by have := h.out i e;rw [hw] at this;cases this
 have hno : ∀ k,(Bf.spread d.l (setS d.st i (.failed c)) k).isNo = (d.st k).isNo := fun k => by
  rw [spread_no]
  by_cases e : k = i
  ·rw [e,setS_same,hw];rfl
  ·rw [setS_other e]
 have hself : ∀ k,Ru.needs d.l i k = true → (d.st k).isDone = true := fun k hn => ready_free hr (Ru.needs_lt hn).2 hn
 refine ⟨fun k hk => ?_,fun a k hn ha => ?_,fun a k hn ha => ?_,fun a k hn hb ha => ?_⟩
 ·have hk' : d.l.length ≤ k := hk
  show Bf.spread d.l _ k = _
  rw [spread_keeps (by rw [setS_other (by omega),h.out k hk'];rfl),setS_other (by omega)]
  exact h.out k hk'
 ·have ha' : (Bf.spread d.l (setS d.st i (.failed c)) a).isNo = false := ha
  show (Bf.spread d.l (setS d.st i (.failed c)) k).isNo = false
  rw [hno] at ha' ⊢
  exact h.need a k hn ha'
 ·have ha' : ((Bf.spread d.l (setS d.st i (.failed c)) a).isDone || (Bf.spread d.l (setS d.st i (.failed c)) a).isFailed) = true := ha
  show (Bf.spread d.l (setS d.st i (.failed c)) k).isDone = true
  have hdk : (d.st k).isDone = true := by
   by_cases e : a = i
   ·subst e
    exact hself k hn
   ·rcases spread_or d.l (setS d.st i (.failed c)) a with e1 | ⟨_,_,e1⟩
    ·rw [e1,setS_other e] at ha'
     exact h.ran a k hn ha'
    ·rw [e1] at ha';cases ha'
  have hki : k ≠ i := fun e => by rw [e,hw] at hdk;cases hdk
  rw [spread_keeps (by rw [setS_other hki];cases hs : d.st k <;> rw [hs] at hdk <;> first | rfl | cases hdk),setS_other hki]
  exact hdk
 ·have hb' : (Bf.spread d.l (setS d.st i (.failed c)) k).isBad = true := hb
  have ha' : (Bf.spread d.l (setS d.st i (.failed c)) a).isNo = false := ha
  show Bf.spread d.l (setS d.st i (.failed c)) a = .left
  rw [hno] at ha'
  have hai : a ≠ i := fun e => by
   subst e
   have h1 := hself k hn
   have hki : k ≠ a := fun e => by rw [e,hw] at h1;cases h1
   rw [spread_keeps (by rw [setS_other hki];cases hs : d.st k <;> rw [hs] at h1 <;> first | rfl | cases h1),setS_other hki] at hb'
   cases hs : d.st k <;> rw [hs] at h1 hb' <;> first | (cases hb';done) | (cases h1;done)
  have hleft : ∀ hc : Chain d.l (setS d.st i (.failed c)) a,d.st a = .waits → Bf.spread d.l (setS d.st i (.failed c)) a = .left := fun hc e => by
   unfold Bf.spread
   rw [if_pos ⟨by rw [setS_other hai,e];rfl,hc⟩]
  have hkeep : d.st a = .left → Bf.spread d.l (setS d.st i (.failed c)) a = .left := fun e => by
   rw [spread_keeps (by rw [setS_other hai,e];rfl),setS_other hai,e]
  have hcase : (d.st k).isDone = false → d.st a = .waits ∨ d.st a = .left := fun hd => by
   have h2 := h.ran a k hn
   rw [hd] at h2
   cases hs : d.st a with
   | no => rw [hs] at ha';cases ha'
   | waits => exact .inl rfl
   | done s b => rw [hs] at h2;cases h2 rfl
   | failed c => rw [hs] at h2;cases h2 rfl
   | left => exact .inr rfl
  by_cases e : k = i
  ·subst e
   rcases hcase (by rw [hw];rfl) with e1 | e1
   ·exact hleft (.one hn (by rw [setS_same];rfl)) e1
   ·exact hkeep e1
  ·rcases spread_or d.l (setS d.st i (.failed c)) k with e1 | ⟨e1,e2,_⟩
   ·rw [e1,setS_other e] at hb'
    exact hkeep (h.bad a k hn hb' ha')
   ·have hwk := e1
    rw [setS_other e] at hwk
    rcases hcase (by rw [St.waits_eq hwk];rfl) with e3 | e3
    ·exact hleft (.more hn e1 e2) e3
    ·exact hkeep e3
theorem Inv.go {d : Bd} (h : Inv d) (act : Act) (c : Ca) {i : Nat} (hr : d.isReady i = true) : Inv (go act c d i).d := by
 unfold Bf.go
 split
 ·exact h.fail hr _
 ·split
  ·exact h.set hr _ _
  ·split
   ·exact h.set hr _ _
   ·exact h.fail hr _
end Bf
end Go.Proofs.YtdljhggillgpfaaGreatDoor
namespace Go.Proofs.YtdljhggillgpfaaGreatDoor
open Go.RowKit Go.Shelf Go.Lib Go.Maps
def PBlk (dom : Nat → Prop) (L : Lay) (j : Nat) : Prop := ∃ i,dom i ∧ j = L.sp i
theorem PBlk.s {dom : Nat → Prop} {L : Lay} {j : Nat} (h : PBlk dom L j) : SBlk dom L j := by
 obtain ⟨i,hi,e⟩ := h
 exact ⟨i,hi,.inl e⟩
theorem Only.setCell {S : Nat → Prop} {W : World} (a : Addr) (v : Value) (hS : S a.block) : Only S W (W.setCell a v) :=
 ⟨rfl,rfl,rfl,by simp,fun j _ hj => Below.heap_setCell W a v j fun e => hj (e ▸ hS)⟩
theorem Only.refl (S : Nat → Prop) (W : World) : Only S W W := ⟨rfl,rfl,rfl,Nat.le_refl _,fun _ _ _ => rfl⟩
theorem Steps.lefts {W : World} {es : Nat → Addr} {dom : Nat → Prop} {L : Lay} {ru : Nat → Ru} {ins : Nat → List Inp} {st : Nat → Bf.St} (h : Steps W es dom L ru ins st) {u : Nat} (hu : dom u) (hw : st u = .waits) : Steps (W.setCell ⟨L.sp u,4,none⟩ (.int .i64 4)) es dom L ru ins (Bf.setS st u .left) := by
 refine h.turn hu .left ?_ fun j hj _ => Below.heap_setCell W _ _ j hj
 rw [heap_setCell_same W _ _ _ _ _ (h.step u hu),hw]
 rfl
theorem stleave_calls {es : Nat → Addr} {dom : Nat → Prop} {L : Lay} {ru : Nat → Ru} {ins : Nat → List Inp} {n : Nat} (hdn : ∀ i,dom i → i < n) (hlen : ∀ i,dom i → (L.us i).length ≤ 1000) : ∀ (f : Nat) {W : World} {st : Nat → Bf.St} {s : Nat} (_ : Steps W es dom L ru ins st) (_ : dom s) (_ : ∀ k,Bf.Up L.us s k → st k = .waits ∨ st k = .left) (_ : Bf.many st Bf.St.notLeft n < f),
  Calls Tryz.prog 253 #[Ptr (L.sp s)] W fun e w' => e = .returned (.tuple #[]) ∧ ∃ st',Steps w' es dom L ru ins st' ∧ Bf.Leave L.us s (L.us s) st st' ∧ Only (PBlk dom L) W w'
 | 0,_,_,_,_,_,_,hf => by omega
 | f + 1,W,st,s,h,hs,hU,hf => by
  have HIH := hid1 fun (V : World) (b : Nat → Bf.St) (u : Nat) (h1 : Steps V es dom L ru ins b) (h2 : dom u) (h3 : ∀ k,Bf.Up L.us u k → b k = .waits ∨ b k = .left) (h4 : Bf.many b Bf.St.notLeft n < f) => stleave_calls hdn hlen f h1 h2 h3 h4
  have HU := hid1 hU
  have HF := hid1 hf
  have HD := hid1 hdn
  have c3 := (h.at hs).c3
  have hl := hlen s hs
  have zl : ((L.us s).length : Int) ≤ 1000 := by omega
  obtain ⟨p,cap,e3⟩ := own_val (h.usR s hs)
  rw [e3] at c3
  have HE3 := hid1 e3
  have HS0 := hid1 h
  go_enter Tryz.func253,Tryz.ntmps253
  go_wp2
  go_loopw [9] (fun iv wr => ∃ (k : Nat) (b : Nat → Bf.St),k ≤ (L.us s).length ∧ iv = .int .i64 k ∧ Steps wr es dom L ru ins b ∧ Bf.Leave L.us s ((L.us s).take k) st b ∧ Only (PBlk dom L) W wr) (fun iv _ => (L.us s).length - (intOf iv).toNat)
  case atStart => exact ⟨0,st,Nat.zero_le _,rfl,HS0.out,Bf.Leave.start _ _ _,Only.refl _ _⟩
  case round =>
   obtain ⟨k,b,hk,rfl,hS,hL,hO⟩ := hrel
   have HS := hid1 hS
   have HL := hid1 hL
   have HO := hid1 hO
   have k0 : (0 : Int) ≤ (k : Int) := by omega
   by_cases hlt : k < (L.us s).length
   ·have k1 : (k : Int) < ((L.us s).length : Int) := by omega
    have hmem : (L.us s)[k] ∈ L.us s := List.getElem_mem hlt
    have htk : (L.us s).take (k + 1) = (L.us s).take k ++ [(L.us s)[k]] := List.take_succ_eq_append_getElem hlt
    obtain ⟨g,cap',e',hc⟩ := own_cell (HS.out.usR s hs) (by omega)
    rw [HE3.out] at e'
    obtain ⟨rfl,rfl⟩ : p = some ⟨g,0,none⟩ ∧ cap = cap' := by
     simp only [Value.slice.injEq] at e'
     exact ⟨e'.1,e'.2.2⟩
    have d0 : wr.cell? ⟨g,k,none⟩ = some (Ptr (L.sp (L.us s)[k])) := hc k _ (by unfold usC;rw [List.getElem?_map,List.getElem?_eq_getElem hlt];rfl)
    have HT := hid1 htk
    generalize (L.us s)[k] = u at *
    have hdu := HS.out.usD s hs u hmem
    have hA := HS.out.at hdu
    have c4 := hA.c4
    have f4 := hA.fr 4
    cases hbl : (b u).isLeft with
    | true =>
     have hn : (b u).num = 4 := by
      have := Bf.St.num_left (b u)
      rw [hbl] at this
      simpa using this.symm
     rw [hn] at c4
     have HL2 : Hid (Bf.Leave L.us s ((L.us s).take (k + 1)) st b) := hid1 (by rw [HT.out];exact HL.out.skip (Bf.St.left_eq hbl))
     go_wp2
     exact ⟨⟨k + 1,b,by omega,by go_num,HS.out,HL2.out,HO.out⟩,by simp [intOf];omega⟩
    | false =>
     have hw : b u = .waits := by
      rcases HL.out.only u with e | ⟨_,e,_⟩
      ·rcases HU.out u (.one hmem) with e1 | e1
       ·rw [e,e1]
       ·rw [e,e1] at hbl;cases hbl
      ·rw [e] at hbl;cases hbl
     have HS1 := hid1 (HS.out.lefts hdu hw)
     have HO1 : Hid (Only (PBlk dom L) W (wr.setCell ⟨L.sp u,4,none⟩ (.int .i64 4))) := hid1 (HO.out.trans (Only.setCell _ _ ⟨u,hdu,rfl⟩) fun j hj => .inl hj)
     have HC := hid1 (HIH.out _ _ _ HS1.out hdu (fun k hk => by
      by_cases e : k = u
      ·rw [e,Bf.setS_same];exact .inr rfl
      ·rw [Bf.setS_other e]
       rcases HL.out.only k with e1 | ⟨_,e1,_⟩
       ·rw [e1];exact HU.out k (hk.trans hmem)
       ·exact .inr e1) (by
      have h1 := HL.out.fewer (HD.out u hdu) hbl
      have h2 := HF.out
      omega))
     have HGo := hid1 fun c (hc : Bf.Leave L.us u (L.us u) (Bf.setS b u .left) c) => (show Bf.Leave L.us s ((L.us s).take (k + 1)) st c by rw [HT.out];exact HL.out.go hmem hbl hc)
     rw [hw] at c4
     go_wp2_with fail
     refine HC.out.mono ?_
     rintro e w2 ⟨rfl,c,hS2,hL2,hO2⟩
     have HS2 := hid1 hS2
     have HL2 := hid1 (HGo.out c hL2)
     have HO2 := hid1 (HO1.out.trans hO2 fun j hj => .inl hj)
     go_wp2
     exact ⟨⟨k + 1,c,by omega,by go_num,HS2.out,HL2.out,HO2.out⟩,by simp [intOf];omega⟩
   ·have k1 : ((L.us s).length : Int) ≤ (k : Int) := by omega
    have HL2 : Hid (Bf.Leave L.us s (L.us s) st b) := hid1 (by
     have := HL.out
     rwa [List.take_of_length_le (by omega)] at this)
    go_wp2
    go_end0
    exact ⟨rfl,b,HS.out,HL2.out,HO.out⟩
theorem erOf_iface (es : Nat → Addr) (c : Nat) : (c = 0 ∧ erOf es c = .nilIface) ∨ ∃ t u,erOf es c = .iface t u := by
 cases c with
 | zero => exact .inl ⟨rfl,rfl⟩
 | succ k => exact .inr ⟨_,_,rfl⟩
theorem stfail_calls {es : Nat → Addr} {dom : Nat → Prop} {L : Lay} {ru : Nat → Ru} {ins : Nat → List Inp} {n : Nat} (hdn : ∀ i,dom i → i < n) (hlen : ∀ i,dom i → (L.us i).length ≤ 1000) {W : World} {st : Nat → Bf.St} {s : Nat} (h : Steps W es dom L ru ins st) (hs : dom s) (hw : st s = .waits) (c : Nat) (hU : ∀ k,Bf.Up L.us s k → Bf.setS st s (.failed c) k = .waits ∨ Bf.setS st s (.failed c) k = .left) :
  Calls Tryz.prog 230 #[Ptr (L.sp s),erOf es c] W fun e w' => e = .returned (.tuple #[]) ∧ ∃ st',Steps w' es dom L ru ins st' ∧ Bf.Leave L.us s (L.us s) (Bf.setS st s (.failed c)) st' ∧ Only (PBlk dom L) W w' := by
 have hA := h.at hs
 have c4 := hA.c4
 have f4 := hA.fr 4
 have c6 := hA.c6
 have f6 := hA.fr 6
 have hS1 : Steps ((W.setCell ⟨L.sp s,4,none⟩ (.int .i64 3)).setCell ⟨L.sp s,6,none⟩ (erOf es c)) es dom L ru ins (Bf.setS st s (.failed c)) := by
  refine h.turn hs (.failed c) ?_ fun j hj _ => ?_
  ·have r1 := heap_setCell_same W (L.sp s) 4 _ _ (.int .i64 3) (h.step s hs)
   rw [heap_setCell_same _ _ _ _ _ _ r1,hw]
   rfl
  ·rw [Below.heap_setCell _ _ _ j hj,Below.heap_setCell _ _ _ j hj]
 have HC := hid1 (stleave_calls hdn hlen _ hS1 hs hU (Nat.lt_succ_self _))
 have HO1 : Hid (Only (PBlk dom L) W ((W.setCell ⟨L.sp s,4,none⟩ (.int .i64 3)).setCell ⟨L.sp s,6,none⟩ (erOf es c))) := hid1 ((Only.setCell _ _ ⟨s,hs,rfl⟩).trans (Only.setCell _ _ ⟨s,hs,rfl⟩) fun j hj => .inl hj)
 have hz : W.heap.size = ((W.setCell ⟨L.sp s,4,none⟩ (.int .i64 3)).setCell ⟨L.sp s,6,none⟩ (erOf es c)).heap.size := by simp
 rw [hw] at c4 c6
 rcases erOf_iface es c with ⟨-,e1⟩ | ⟨t,x,e1⟩
 all_goals
  rw [e1] at HC HO1 hz ⊢
  go_enter Tryz.func230,Tryz.ntmps230
  go_wp2_with fail
  refine HC.out.mono ?_
  rintro e w1 ⟨rfl,b,hS2,hL2,hO2⟩
  have HQ := hid1 (And.intro hS2 hL2)
  have HO2 := hid1 (HO1.out.trans hO2 fun j hj => .inl hj)
  go_wp2
  go_end0
  exact ⟨rfl,b,HQ.out.1,HQ.out.2,HO2.out⟩
end Go.Proofs.YtdljhggillgpfaaGreatDoor
