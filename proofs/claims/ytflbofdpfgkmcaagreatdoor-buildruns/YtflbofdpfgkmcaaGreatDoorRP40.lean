import Derived.Test.YtflbofdpfgkmcaaGreatDoorRP39
set_option maxRecDepth 100000
set_option maxHeartbeats 16000000
namespace Go.Proofs.YtflbofdpfgkmcaaGreatDoor
open Go.RowKit Go.Shelf Go.Lib Go.Maps
open Tf (Fs)
structure Both (B : Nat) (w : World) (T M : Nat) (fs : Fs) (o : Option Nat) (v : Value) : Prop where
 t : TreeAt B w T fs o
 m : RTreeAt B w M fs v
 well : Tf.Well pathB fs
 tm : T ≠ M
 om : o ≠ some M
 vt : v.ownBlock ≠ some T
 ov : ∀ j,o = some j → v.ownBlock ≠ some j
theorem TreeAt.map_lt {B : Nat} {w : World} {tb : Nat} {fs : Fs} {o : Option Nat} (h : TreeAt B w tb fs o) {j : Nat} (e : o = some j) : j < w.heap.size := by
 subst e
 exact h.isMap.2.2.lt
theorem RTreeAt.row_lt {B : Nat} {w : World} {tb : Nat} {fs : Fs} {v : Value} (h : RTreeAt B w tb fs v) {j : Nat} (e : v.ownBlock = some j) : j < w.heap.size := by
 rcases h.row.2 with ⟨rfl,_⟩ | ⟨g,cap,cur,rfl,_,hg,_⟩
 ·cases e
 ·cases e
  exact (Array.getElem?_eq_some_iff.1 hg).1
theorem Both.below {B : Nat} {w w' : World} {T M : Nat} {fs : Fs} {o : Option Nat} {v : Value} (h : Both B w T M fs o v) (hb : Below w.heap.size w w') : Both B w' T M fs o v :=
 ⟨h.t.below hb,h.m.below hb,h.well,h.tm,h.om,h.vt,h.ov⟩
structure Half (B : Nat) (w w1 : World) (T M : Nat) (fs fs' : Fs) (o o' : Option Nat) (v : Value) : Prop where
 t : TreeAt B w1 T fs' o'
 m : RTreeAt B w1 M fs v
 on : OldNew w o o'
 size : w.heap.size ≤ w1.heap.size
theorem Both.half {B : Nat} {w w1 : World} {T M : Nat} {fs fs' : Fs} {o o' : Option Nat} {v : Value} (h : Both B w T M fs o v) (ht : TreeAt B w1 T fs' o') (hon : OldNew w o o') (hk : Kept (tS T o) w w1) : Half B w w1 T M fs fs' o o' v :=
 ⟨ht,h.m.kept hk (fun e => e.elim (fun e => h.tm e.symm) h.om) (fun j e hs => hs.elim (fun e2 => h.vt (e2 ▸ e)) (fun e2 => h.ov j e2 e)),hon,hk.size⟩
theorem Half.both {B : Nat} {w w1 w2 : World} {T M : Nat} {fs fs' : Fs} {o o' : Option Nat} {v v' : Value} (hh : Half B w w1 T M fs fs' o o' v) (h : Both B w T M fs o v) (hm : RTreeAt B w2 M fs' v') (hon : RowON w1 v v') (hk : Kept (mS M v) w1 w2) (hw : Tf.Well pathB fs') : Both B w2 T M fs' o' v' := by
 have hM := h.m.lt
 have hT := h.t.lt
 have hs := hh.size
 have om' : o' ≠ some M := by
  rcases hh.on with rfl | ⟨j,rfl,hj⟩
  ·exact h.om
  ·intro e
   have := Option.some.inj e
   omega
 have ov1 : ∀ j,o' = some j → v.ownBlock ≠ some j := by
  intro j e e2
  rcases hh.on with rfl | ⟨i,rfl,hi⟩
  ·exact h.ov j e e2
  ·have := Option.some.inj e
   have := h.m.row_lt e2
   omega
 refine ⟨hh.t.kept hk (fun e => e.elim h.tm (fun e => h.vt e)) (fun j e hs => hs.elim (fun e2 => om' (e2 ▸ e)) (fun e2 => ov1 j e e2)),hm,hw,h.tm,om',?_,?_⟩
 ·rcases hon with e | hn
  ·rw [e];exact h.vt
  ·intro e
   have := hn T e
   omega
 ·intro j e
  rcases hon with e2 | hn
  ·rw [e2];exact ov1 j e
  ·intro e2
   have := hn j e2
   have := hh.t.map_lt e
   omega
end Go.Proofs.YtflbofdpfgkmcaaGreatDoor
namespace Go.Proofs.YtflbofdpfgkmcaaGreatDoor
open Go.RowKit Go.Shelf Go.Lib
open Tf (Fs)
def FIRow (w : World) (v : Value) (l : Fs) : Prop :=
 ∃ p cap,v = .slice p l.length cap ∧ (l ≠ [] → ∃ g o,p = some ⟨g,o,none⟩ ∧ g < w.heap.size ∧ ∀ j (hj : j < l.length),w.cell? ⟨g,o + j * 2,none⟩ = some (.string (ba l[j].1)) ∧ w.cell? ⟨g,o + j * 2 + 1,none⟩ = some (.string (ba l[j].2)))
theorem FIRow.below {w w' : World} {v : Value} {l : Fs} (h : FIRow w v l) (hb : Below w.heap.size w w') : FIRow w' v l := by
 obtain ⟨p,cap,e,h1⟩ := h
 refine ⟨p,cap,e,fun hl => ?_⟩
 obtain ⟨g,o,e,hg,hc⟩ := h1 hl
 exact ⟨g,o,e,Nat.lt_of_lt_of_le hg hb.size,fun j hj => ⟨cell_below' (hc j hj).1 hb,cell_below' (hc j hj).2 hb⟩⟩
structure ShortF (l : Fs) : Prop where
 few : l.length ≤ 30
 path : ∀ f ∈ l,f.1.length ≤ 100
 bytes : ∀ f ∈ l,f.2.length ≤ 4000
theorem longFiles_calls {w : World} (v : Value) (l : Fs) (hrow : FIRow w v l) :
  Calls Tryz.prog 54 #[v] w fun e w' => ∃ b,e = .returned (.bool b) ∧ w' = w ∧ (b = true ∨ ShortF l) := by
 obtain ⟨p,cap,rfl,hin⟩ := hrow
 have HI := hid1 hin
 clear hin
 by_cases h30 : 30 < l.length
 ·have z : (30 : Int) < (l.length : Int) := by omega
  go_enter Tryz.func54,Tryz.ntmps54
  go_wp2
  go_ret
  exact ⟨true,rfl,rfl,.inl rfl⟩
 ·have z : (l.length : Int) ≤ (30 : Int) := by omega
  go_enter Tryz.func54,Tryz.ntmps54
  go_wp2
  go_loopw [3,4] (fun nv' iv wr => ∃ (k n : Nat),k ≤ l.length ∧ iv = .int .i64 k ∧ nv' = .int .i64 n ∧ n ≤ 4000 ∧ (∀ j (hj : j < l.length),j < k → l[j].1.length ≤ 100 ∧ l[j].2.length ≤ 4000) ∧ w = wr) (fun _ iv _ => l.length - (intOf iv).toNat)
  case atStart => exact ⟨0,0,Nat.zero_le _,rfl,rfl,Nat.zero_le _,fun j _ h => by omega,rfl⟩
  case round =>
   obtain ⟨k,n,hk,rfl,rfl,hn,hs,rfl⟩ := hrel
   have HS := hid1 hs
   clear hs
   have k0 : (0 : Int) ≤ (k : Int) := by omega
   have zn : (n : Int) ≤ 4000 := by omega
   have zn0 : (0 : Int) ≤ (n : Int) := by omega
   by_cases hlt : k < l.length
   ·have k1 : (k : Int) < (l.length : Int) := by omega
    obtain ⟨g,o,rfl,hg,hc⟩ := HI.out (by intro e;rw [e] at hlt;simp at hlt)
    have d0 := (hc k hlt).1
    have d1 := (hc k hlt).2
    have HNx : Hid (l[k].1.length ≤ 100 → l[k].2.length ≤ 4000 → ∀ j (hj : j < l.length),j < k + 1 → l[j].1.length ≤ 100 ∧ l[j].2.length ≤ 4000) := hid1 fun h1 h2 j hj hjk => by
     by_cases e : j = k
     ·subst e;exact ⟨h1,h2⟩
     ·exact HS.out j hj (by omega)
    clear hc HI HS
    generalize l[k] = y at *
    obtain ⟨y1,y2⟩ := y
    simp only at d0 d1 HNx
    by_cases h1 : 4000 < y2.length
    ·have z1 : (4000 : Int) < (y2.length : Int) := by omega
     go_wp2
     go_ret
     exact ⟨true,rfl,rfl,.inl rfl⟩
    ·have z1 : (y2.length : Int) ≤ (4000 : Int) := by omega
     by_cases h2 : 100 < y1.length
     ·have z2 : (100 : Int) < (y1.length : Int) := by omega
      go_wp2
      go_ret
      exact ⟨true,rfl,rfl,.inl rfl⟩
     ·have z2 : (y1.length : Int) ≤ (100 : Int) := by omega
      by_cases h3 : 4000 < n + y2.length
      ·have z3 : (4000 : Int) < (n : Int) + (y2.length : Int) := by omega
       go_wp2
       go_ret
       exact ⟨true,rfl,rfl,.inl rfl⟩
      ·have z3 : (n : Int) + (y2.length : Int) ≤ (4000 : Int) := by omega
       have HQ := hid1 (HNx.out (by omega) (by omega))
       clear HNx
       go_wp2
       exact ⟨⟨k + 1,n + y2.length,by omega,by go_num,by go_num,by omega,HQ.out,trivial⟩,by simp [intOf];omega⟩
   ·have k1 : (l.length : Int) ≤ (k : Int) := by omega
    have HQ : Hid (ShortF l) := hid1 ⟨by omega,fun f hf => by
     obtain ⟨j,hj,rfl⟩ := List.getElem_of_mem hf
     exact (HS.out j hj (by omega)).1,fun f hf => by
     obtain ⟨j,hj,rfl⟩ := List.getElem_of_mem hf
     exact (HS.out j hj (by omega)).2⟩
    clear HS HI
    go_wp2
    go_ret
    exact ⟨false,rfl,rfl,.inr HQ.out⟩
def Tf.taken (l : Fs) : Fs := l.foldl (fun t f => Tf.putF pathB t f.1 f.2) []
theorem Tf.taken_snoc (l : Fs) (f : List UInt8 × List UInt8) : Tf.taken (l ++ [f]) = Tf.putF pathB (Tf.taken l) f.1 f.2 := by simp [Tf.taken]
theorem Tf.putF_mem {fs : Fs} {p b : List UInt8} {f : List UInt8 × List UInt8} (h : f ∈ Tf.putF pathB fs p b) : f ∈ fs ∨ f = (p,b) := by
 unfold Tf.putF at h
 split at h
 ·rcases Tf.mem_put.1 h with h1 | h1
  ·exact .inr h1
  ·exact .inl h1.1
 ·exact .inl h
theorem Tf.taken_mem : ∀ (l : Fs) (f : List UInt8 × List UInt8),f ∈ Tf.taken l → f ∈ l := by
 have key : ∀ (l t : Fs) (f : List UInt8 × List UInt8),f ∈ l.foldl (fun t f => Tf.putF pathB t f.1 f.2) t → f ∈ t ∨ f ∈ l := by
  intro l
  induction l with
  | nil => intro t f h;exact .inl h
  | cons x r ih =>
   intro t f h
   rcases ih _ f h with h1 | h1
   ·rcases Tf.putF_mem h1 with h2 | h2
    ·exact .inl h2
    ·exact .inr (by rw [h2];simp)
   ·exact .inr (List.mem_cons_of_mem _ h1)
 intro l f h
 rcases key l [] f h with h1 | h1
 ·cases h1
 ·exact h1
theorem Tf.putF_len (fs : Fs) (p b : List UInt8) : (Tf.putF pathB fs p b).length ≤ fs.length + 1 := by
 unfold Tf.putF
 split
 ·unfold Tf.put
  rw [Tf.length_ins]
  have := Tf.length_del_le fs p
  omega
 ·omega
theorem Tf.taken_len : ∀ (l : Fs),(Tf.taken l).length ≤ l.length := by
 have key : ∀ (l t : Fs),(l.foldl (fun t f => Tf.putF pathB t f.1 f.2) t).length ≤ t.length + l.length := by
  intro l
  induction l with
  | nil => intro t;simp
  | cons x r ih =>
   intro t
   have h1 := ih (Tf.putF pathB t x.1 x.2)
   have h2 := Tf.putF_len t x.1 x.2
   simp only [List.foldl_cons,List.length_cons]
   omega
 intro l
 have := key l []
 simpa [Tf.taken] using this
theorem fileTree_calls {w : World} {es : Nat → Value} (hE : TErr w es) (v : Value) (l : Fs) (hrow : FIRow w v l) (hs : ShortF l) :
  Calls Tryz.prog 55 #[v] w fun e w' => ∃ T M o u,e = .returned (.tuple #[Ptr T,Ptr M]) ∧ Both w.heap.size w' T M (Tf.taken l) o u ∧ Below w.heap.size w w' := by
 obtain ⟨p,cap,rfl,hin⟩ := hrow
 have HI := hid1 hin
 have HE := hid1 hE
 have HNw := hid1 (New_calls w)
 have HS := hid1 hs
 have hfew := hs.few
 have zl : (l.length : Int) ≤ 30 := by omega
 clear hin hE hs
 go_enter Tryz.func55,Tryz.ntmps55
 go_wp2_with fail
 refine HNw.out.mono ?_
 rintro e w1 ⟨rfl,hT,g1⟩
 have a1 : Below w1.heap.size w1 (w1.alloc (.cells #[.slice none 0 0] 38)) := (Below.refl _ w1).alloc (Nat.le_refl _) _
 have hz1 : w.heap.size < w1.heap.size := hT.lt
 have hT2 := hT.below a1
 have hB0 : Both w.heap.size (w1.alloc (.cells #[.slice none 0 0] 38)) w.heap.size w1.heap.size (Tf.taken []) none (.slice none 0 0) :=
  ⟨hT2,⟨g1.size,by simp,by simp,World.ownsRow_nil _ _ _ _,by simp [Value.ownBlock],fun _ => rfl⟩,Tf.Well.nil _,by omega,by simp,by simp [Value.ownBlock],fun j e => by cases e⟩
 have G2 := below_then g1 a1
 have HB0 := hid1 (And.intro hB0 G2)
 clear HNw hT g1 a1 hT2 hB0 G2
 go_wp2
 go_loopw [6] (fun iv wr => ∃ (k : Nat) (o : Option Nat) (u : Value),k ≤ l.length ∧ iv = .int .i64 k ∧ Both w.heap.size wr w.heap.size w1.heap.size (Tf.taken (l.take k)) o u ∧ Below w.heap.size w wr) (fun iv _ => l.length - (intOf iv).toNat)
 case atStart => exact ⟨0,none,_,Nat.zero_le _,rfl,HB0.out.1,HB0.out.2⟩
 case round =>
  clear HB0
  obtain ⟨k,o,u,hk,rfl,hBo,hB⟩ := hrel
  have k0 : (0 : Int) ≤ (k : Int) := by omega
  by_cases hlt : k < l.length
  ·have k1 : (k : Int) < (l.length : Int) := by omega
   obtain ⟨g,oo,rfl,hg,hc⟩ := HI.out (by intro e;rw [e] at hlt;simp at hlt)
   have d0 := (hB.cell (p := ⟨g,oo + k * 2,none⟩) hg).trans (hc k hlt).1
   have d1 := (hB.cell (p := ⟨g,oo + k * 2 + 1,none⟩) hg).trans (hc k hlt).2
   have HTk : Hid (Tf.taken (l.take (k + 1)) = Tf.putF pathB (Tf.taken (l.take k)) l[k].1 l[k].2) := hid1 (by
    rw [List.take_succ_eq_append_getElem hlt,Tf.taken_snoc])
   have hp := HS.out.path _ (List.getElem_mem hlt)
   have hlen := Tf.taken_len (l.take k)
   rw [List.length_take] at hlen
   have hps : ∀ f ∈ Tf.taken (l.take k),f.1.length ≤ 1000000 := fun f hf => by
    have := HS.out.path f (List.mem_of_mem_take (Tf.taken_mem _ f hf))
    omega
   have HP1 := hid1 (PutK_calls (w := wr.drew) (hBo.below (below_draws (Below.refl _ wr) 1)).t ((HE.out.below hB).below (below_draws (Below.refl _ wr) 1)) hps (by omega) l[k].1 l[k].2 (by omega))
   have HD := hid1 fun (V : World) (gV : Below w.heap.size w V) => And.intro ((gV.cell (p := ⟨g,oo + k * 2,none⟩) hg).trans (hc k hlt).1) ((gV.cell (p := ⟨g,oo + k * 2 + 1,none⟩) hg).trans (hc k hlt).2)
   clear hc
   generalize l[k] = y at *
   obtain ⟨y1,y2⟩ := y
   simp only at d0 d1 HTk HP1 HD hp
   have HBo := hid1 (hBo.below (below_draws (Below.refl _ wr) 1))
   have hB' : Below w.heap.size w wr.drew := hB.drew
   clear hBo
   go_wp2
   go_region_held3 (fun w' => w'.cell? ⟨g,oo + k * 2,none⟩ = some (.string (ba y1)) ∧ w'.cell? ⟨g,oo + k * 2 + 1,none⟩ = some (.string (ba y2))) (first | go_keep | fail)
    (first | (go_at_call 17;refine HP1.out.mono ?_;rintro e w5 ⟨rfl,⟨o5,hon5,hT5⟩,hb5,hk5⟩;(have G5 := hB'.trans hb5);(have dd := HD.out w5 G5);(have e0 := dd.1);(have e1 := dd.2)) | fail)
   all_goals
    have hh := HBo.out.half hT5 hon5 hk5
    have hdr : Below w5.heap.size w5 w5.drew := below_draws (Below.refl _ w5) 1
    have hh' : Half w.heap.size wr.drew w5.drew w.heap.size w1.heap.size (Tf.taken (l.take k)) (Tf.putF pathB (Tf.taken (l.take k)) y1 y2) o o5 u := ⟨hh.t.below hdr,hh.m.below hdr,hh.on,hh.size⟩
    have HP2 := hid1 (rPutK_calls hh'.m HBo.out.well y1 y2 (by omega))
    have HH := hid1 hh'
    have G5' : Below w.heap.size w w5.drew := G5.drew
    clear hh hh' hT5 hon5 hk5 hb5 hdr
    go_wp2
    go_region_held3 (fun w' => w'.cell? ⟨g,oo + k * 2,none⟩ = some (.string (ba y1)) ∧ w'.cell? ⟨g,oo + k * 2 + 1,none⟩ = some (.string (ba y2))) (first | go_keep | fail)
     (first | (go_at_call 18;refine HP2.out.mono ?_;rintro e w6 ⟨rfl,⟨u6,hon6,hT6⟩,hb6,hk6⟩;(have G6 := G5'.trans hb6);(have dd6 := HD.out w6 G6);(have x0 := dd6.1);(have x1 := dd6.2)) | fail)
    all_goals
     have hbo := HH.out.both HBo.out hT6 hon6 hk6 (HBo.out.well.putF y1 y2)
     have HB6 := hid1 hbo
     clear hbo hT6 hon6 hk6 hb6
     go_wp2
     exact ⟨⟨k + 1,o5,u6,by omega,by go_num,by rw [HTk.out];exact HB6.out,G6⟩,by simp [intOf];omega⟩
  ·have k1 : (l.length : Int) ≤ (k : Int) := by omega
   obtain rfl : k = l.length := by omega
   have HQ := hid1 hBo
   rw [List.take_length] at HQ
   clear hBo
   go_wp2
   go_ret2
   exact ⟨_,_,o,u,rfl,HQ.out,hB⟩
end Go.Proofs.YtflbofdpfgkmcaaGreatDoor
namespace Go.Proofs.YtflbofdpfgkmcaaGreatDoor.Tf
open Go.Lib
def pos (c : UInt8) (s : List UInt8) : Nat := s.findIdx (· == c)
def stop (ok : List UInt8 → Bool) : Fs → Fs → Nat
 | _,[] => 0
 | t,e :: r => if putCode ok t e.1 e.2 = 0 then stop ok (put t e.1 e.2) r else putCode ok t e.1 e.2
def numR (d : List UInt8) : Option Nat := if d.length < 1 ∨ 4 < d.length ∨ (1 < d.length ∧ d[0]? = some 48) then none else Lib.decFrom 0 d
theorem digits_head : ∀ (n : Nat),1 ≤ n → (Lib.decDigits n).head? ≠ some 48
 | n,h1 => by
  rw [Lib.decDigits]
  split
  ·rename_i h
   simp only [List.head?_cons,ne_eq,Option.some.injEq]
   intro e
   have := congrArg UInt8.toNat e
   simp at this
   omega
  ·rename_i h
   have ih := digits_head (n / 10) (by omega)
   have hne := digits_ne (n / 10)
   cases hl : Lib.decDigits (n / 10) with
   | nil => exact absurd hl hne
   | cons b r => rw [hl] at ih;simpa using ih
 termination_by n => n
 decreasing_by omega
theorem decFrom_back (l : List UInt8) (c : UInt8) (acc m : Nat) (h : Lib.decFrom acc (l ++ [c]) = some m) : ∃ n d,Lib.decFrom acc l = some n ∧ Lib.digitVal c = some d ∧ m = n * 10 + d := by
 obtain ⟨n,hn⟩ := Lib.decFrom_prefix _ acc m h l.length
 rw [List.take_left'] at hn
 ·obtain ⟨d,hd⟩ := Lib.digit_of_decFrom _ acc m h l.length c (by simp)
  have := decFrom_append l [c] acc n hn
  rw [h,decFrom_one n d c hd] at this
  exact ⟨n,d,hn,hd,Option.some.inj this⟩
 ·rfl
theorem digit_byte {c : UInt8} {d : Nat} (h : Lib.digitVal c = some d) : UInt8.ofNat (48 + d) = c ∧ d < 10 := by
 obtain ⟨h1,h2,h3⟩ := Lib.digitVal_eq h
 refine ⟨?_,by omega⟩
 rw [h3,show 48 + (c.toNat - 48) = c.toNat by omega]
 simp
theorem digits_of : ∀ (n : Nat) (l : List UInt8) (m : Nat),l.length = n → l ≠ [] → l.head? ≠ some 48 → Lib.decFrom 0 l = some m → Lib.decDigits m = l ∧ 1 ≤ m
 | 0,l,m,hn,hne,_,_ => absurd (List.length_eq_zero_iff.1 hn) hne
 | n + 1,l,m,hn,hne,hh,hm => by
  have el := (List.dropLast_concat_getLast hne).symm
  generalize l.dropLast = l' at el
  generalize l.getLast hne = c at el
  subst el
  obtain ⟨k,d,hk,hd,rfl⟩ := decFrom_back l' c 0 m hm
  obtain ⟨hc,hd10⟩ := digit_byte hd
  by_cases hl : l' = []
  ·subst hl
   simp [Lib.decFrom] at hk
   subst hk
   have hc48 : c ≠ 48 := by simpa using hh
   have hd0 : d ≠ 0 := fun e => hc48 (by rw [← hc,e];rfl)
   rw [Lib.decDigits,dif_pos (by omega),show 0 * 10 + d = d by omega,hc]
   exact ⟨rfl,by omega⟩
  ·have hh' : l'.head? ≠ some 48 := by
    cases l' with
    | nil => exact absurd rfl hl
    | cons b r => simpa using hh
   obtain ⟨h1,h2⟩ := digits_of n l' k (by simp at hn;omega) hl hh' hk
   rw [Lib.decDigits,dif_neg (by omega),show (k * 10 + d) / 10 = k by omega,show (k * 10 + d) % 10 = d by omega,h1,hc]
   exact ⟨rfl,by omega⟩
theorem numT_numR (d : List UInt8) : numT d = numR d := by
 unfold numT numR
 by_cases h4 : 4 < d.length
 ·rw [if_pos h4,if_pos (by omega)]
 rw [if_neg h4]
 cases d with
 | nil => simp [Lib.atoi]
 | cons b r =>
  have hno : Lib.digitVal b = none → Lib.decFrom 0 (b :: r) = none := fun h => by simp [Lib.decFrom,h]
  have hright : Lib.decFrom 0 (b :: r) = none → (if (b :: r).length < 1 ∨ 4 < (b :: r).length ∨ (1 < (b :: r).length ∧ (b :: r)[0]? = some 48) then none else Lib.decFrom 0 (b :: r)) = none := fun h => by rw [h];split <;> rfl
  by_cases h45 : b = 45
  ·subst h45
   rw [hright (hno (by decide))]
   have : ∀ z,Lib.atoi (45 :: r) = some z → ¬ (0 ≤ z ∧ Lib.itoa z = 45 :: r) := by
    rintro z hz ⟨h0,h1⟩
    obtain ⟨n,rfl⟩ := Int.eq_ofNat_of_zero_le h0
    rw [Lib.itoa_nonneg] at h1
    have := digits_bytes n 45 (by rw [h1];simp)
    simp at this
   cases ha : Lib.atoi (45 :: r) with
   | none => rfl
   | some z => simp only;rw [if_neg (this z ha)]
  by_cases h43 : b = 43
  ·subst h43
   rw [hright (hno (by decide))]
   have : ∀ z,Lib.atoi (43 :: r) = some z → ¬ (0 ≤ z ∧ Lib.itoa z = 43 :: r) := by
    rintro z hz ⟨h0,h1⟩
    obtain ⟨n,rfl⟩ := Int.eq_ofNat_of_zero_le h0
    rw [Lib.itoa_nonneg] at h1
    have := digits_bytes n 43 (by rw [h1];simp)
    simp at this
   cases ha : Lib.atoi (43 :: r) with
   | none => rfl
   | some z => simp only;rw [if_neg (this z ha)]
  have ha : Lib.atoi (b :: r) = (Lib.decFrom 0 (b :: r)).map fun (m : Nat) => (m : Int) := by
   have e1 : (b == 45) = false := by simpa using h45
   have e2 : (b == 43) = false := by simpa using h43
   simp [Lib.atoi,e1,e2,Lib.decNat]
  rw [ha]
  cases hd : Lib.decFrom 0 (b :: r) with
  | none => simp
  | some m =>
   simp only [Option.map_some]
   rw [Lib.itoa_nonneg]
   by_cases hz : 1 < (b :: r).length ∧ (b :: r)[0]? = some 48
   ·rw [if_pos (show (b :: r).length < 1 ∨ 4 < (b :: r).length ∨ (1 < (b :: r).length ∧ (b :: r)[0]? = some 48) from .inr (.inr hz))]
    have hno2 : ¬ (0 ≤ (m : Int) ∧ Lib.decDigits m = b :: r) := by
     rintro ⟨_,h1⟩
     have hb : b = 48 := by simpa using hz.2
     subst hb
     by_cases hm : 1 ≤ m
     ·have := digits_head m hm
      rw [h1] at this
      simp at this
     ·obtain rfl : m = 0 := by omega
      rw [Lib.decDigits,dif_pos (by omega)] at h1
      have h2 := congrArg List.length h1
      have h3 := hz.1
      rw [← h2] at h3
      simp at h3
    rw [if_neg hno2]
   ·have hyes : 0 ≤ (m : Int) ∧ Lib.decDigits m = b :: r := by
     refine ⟨by omega,?_⟩
     by_cases hb : b = 48
     ·subst hb
      have hr : r = [] := by
       cases r with
       | nil => rfl
       | cons x y => exact absurd ⟨by simp,by simp⟩ hz
      subst hr
      have e : Lib.decFrom 0 [48] = some 0 := by decide
      rw [e] at hd
      cases hd
      rw [Lib.decDigits,dif_pos (by omega)]
      rfl
     ·exact (digits_of _ (b :: r) m rfl (by simp) (by simpa using hb) hd).1
    rw [if_pos hyes,if_neg (show ¬ ((b :: r).length < 1 ∨ 4 < (b :: r).length ∨ (1 < (b :: r).length ∧ (b :: r)[0]? = some 48)) from fun h => by
     rcases h with h | h | h
     ·simp at h
     ·exact h4 h
     ·exact hz h)]
    simp
end Go.Proofs.YtflbofdpfgkmcaaGreatDoor.Tf
namespace Go.Proofs.YtflbofdpfgkmcaaGreatDoor
open Go.RowKit Go.Shelf Go.Lib
def numR3 (d : List UInt8) : Option Nat := if d.length < 1 ∨ 3 < d.length ∨ (1 < d.length ∧ d[0]? = some 48) then none else Lib.decFrom 0 d
def numJ (d : List UInt8) : Int := match numR3 d with
 | some n => (n : Int)
 | none => -1
theorem numJ_no {d : List UInt8} (h : d.length < 1 ∨ 3 < d.length ∨ (1 < d.length ∧ d[0]? = some 48)) : numJ d = -1 := by
 unfold numJ numR3
 rw [if_pos h]
theorem numJ_dec {d : List UInt8} (h : ¬ (d.length < 1 ∨ 3 < d.length ∨ (1 < d.length ∧ d[0]? = some 48))) {n : Nat} (hd : Lib.decFrom 0 d = some n) : numJ d = (n : Int) := by
 unfold numJ numR3
 rw [if_neg h,hd]
theorem numJ_bad {d : List UInt8} {k : Nat} (hk : k < d.length) (h : Lib.digitVal d[k] = none) : numJ d = -1 := by
 unfold numJ numR3
 split
 ·rename_i n hn
  split at hn
  ·cases hn
  ·obtain ⟨x,hx⟩ := Lib.digit_of_decFrom d 0 n hn k d[k] (List.getElem?_eq_getElem hk)
   rw [h] at hx
   cases hx
 ·rfl
theorem NumberOf3_calls (d : List UInt8) (hd : d.length ≤ 1000000) (w : World) :
  Calls Tryz.prog 72 #[.string (ba d),.int .i64 3] w fun e w' => e = .returned (.int .i64 (numJ d)) ∧ w' = w := by
 obtain ⟨bs,eb,T⟩ := txt d
 rw [eb]
 clear eb
 have hsz : (bs.size : Int) ≤ 1000000 := by rw [T.size];omega
 by_cases h1 : d.length < 1
 ·rw [numJ_no (.inl h1)]
  have z1 : (bs.size : Int) < 1 := by rw [T.size];omega
  clear T h1
  go_enter Tryz.func72,Tryz.ntmps72
  go_wp2
  go_ret
  exact ⟨rfl,rfl⟩
 by_cases h4 : 3 < d.length
 ·rw [numJ_no (.inr (.inl h4))]
  have z1 : (1 : Int) ≤ (bs.size : Int) := by rw [T.size];omega
  have z4 : (3 : Int) < (bs.size : Int) := by rw [T.size];omega
  clear T h1 h4
  go_enter Tryz.func72,Tryz.ntmps72
  go_wp2
  go_ret
  exact ⟨rfl,rfl⟩
 have z1 : (1 : Int) ≤ (bs.size : Int) := by rw [T.size];omega
 have z4 : (bs.size : Int) ≤ 3 := by rw [T.size];omega
 have n0 : 0 < bs.size := by rw [T.size];omega
 have hg0 := T.get 0 (by omega) n0
 by_cases h0 : 1 < d.length ∧ d[0]? = some 48
 ·rw [numJ_no (.inr (.inr h0))]
  have z2 : (1 : Int) < (bs.size : Int) := by rw [T.size];omega
  have hb : bs[0] = 48 := by
   rw [hg0]
   have := h0.2
   rw [List.getElem?_eq_getElem (by omega)] at this
   exact Option.some.inj this
  clear T h1 h4 h0 hg0
  go_enter Tryz.func72,Tryz.ntmps72
  go_wp2
  go_ret
  exact ⟨rfl,rfl⟩
 have hcond : ¬ (d.length < 1 ∨ 3 < d.length ∨ (1 < d.length ∧ d[0]? = some 48)) := by rintro (h | h | h);exact h1 h;exact h4 h;exact h0 h
 have hz : (1 : Int) < (bs.size : Int) → ((bs[0].toNat : Int) == 48) = false := fun h => by
  rw [T.size] at h
  cases hq : ((bs[0].toNat : Int) == 48) with
  | false => rfl
  | true =>
   exfalso
   refine h0 ⟨by omega,?_⟩
   rw [List.getElem?_eq_getElem (by omega)]
   have := eq_of_beq hq
   rw [hg0] at this
   congr 1
   exact UInt8.toNat_inj.1 (by simp;omega)
 have HZ : Hid ((1 : Int) < (bs.size : Int) → ((bs[0].toNat : Int) == 48) = false) := hz
 have HC : Hid (¬ (d.length < 1 ∨ 3 < d.length ∨ (1 < d.length ∧ d[0]? = some 48))) := hcond
 obtain ⟨res,hres⟩ : ∃ res,numJ d = res := ⟨_,rfl⟩
 have HR : Hid (numJ d = res) := hres
 rw [hres]
 clear hz hcond hres h0
 clear hg0 h1 h4
 go_enter Tryz.func72,Tryz.ntmps72
 by_cases hone : (1 : Int) < (bs.size : Int)
 all_goals
  (try have hb0 := HZ.out hone)
  go_wp2
  go_loopw [5,6] (fun n i wr => ∃ (k m : Nat),k ≤ d.length ∧ i = .int .i64 k ∧ n = .int .i64 m ∧ Lib.decFrom 0 (d.take k) = some m ∧ m < 10000 ∧ wr = w) (fun _ i _ => d.length - (intOf i).toNat)
  case atStart => exact ⟨0,0,by omega,rfl,rfl,rfl,by omega,rfl⟩
  case round =>
   obtain ⟨k,m,hk,rfl,rfl,hdec,hm,rfl⟩ := hrel
   have HD : Hid (Lib.decFrom 0 (d.take k) = some m) := hdec
   clear hdec
   have zm : (m : Int) < 10000 := by omega
   have zm0 : (0 : Int) ≤ (m : Int) := by omega
   by_cases hlt : k < d.length
   ·have hlt2 : k < bs.size := by rw [T.size];exact hlt
    have c1 : (k : Int) < (bs.size : Int) := by rw [T.size];omega
    have c0 : (0 : Int) ≤ (k : Int) := by omega
    have hget := T.get k hlt hlt2
    have hbad : ∀ (_ : ¬ (48 ≤ bs[k].toNat ∧ bs[k].toNat ≤ 57)),res = -1 := fun h => by
     rw [← HR.out]
     refine numJ_bad hlt ?_
     unfold Lib.digitVal
     rw [← hget,if_neg h]
    by_cases hlo : 48 ≤ bs[k].toNat
    ·by_cases hhi : bs[k].toNat ≤ 57
     ·have hdig : Lib.digitVal d[k] = some (bs[k].toNat - 48) := by
       unfold Lib.digitVal
       rw [← hget,if_pos ⟨hlo,hhi⟩]
      have hnext := Lib.decFrom_take d k 0 m d[k] _ HD.out (List.getElem?_eq_getElem hlt) hdig
      have hsmall : m * 10 + (bs[k].toNat - 48) < 10000 := by
       have h1 := Lib.decFrom_lt _ 0 _ hnext
       have h2 : 10 ^ (d.take (k + 1)).length ≤ 10 ^ 4 := Nat.pow_le_pow_right (by omega) (by rw [List.length_take,← T.size];omega)
       omega
      have HN : Hid (Lib.decFrom 0 (d.take (k + 1)) = some (m * 10 + (bs[k].toNat - 48))) := hnext
      clear hnext hdig hbad hget
      have y1 : (48 : Int) ≤ (bs[k].toNat : Int) := by omega
      have y2 : (bs[k].toNat : Int) ≤ 57 := by omega
      go_wp2
      go_roundw
      case rel => exact ⟨k + 1,m * 10 + (bs[k].toNat - 48),by omega,by go_num,by go_num,HN.out,hsmall,by first | rfl | trivial⟩
      case measure => simp [intOf];omega
     ·have e := hbad (by omega)
      have y2 : (57 : Int) < (bs[k].toNat : Int) := by omega
      have y1 : (48 : Int) ≤ (bs[k].toNat : Int) := by omega
      clear hbad hget
      go_wp2
      go_ret
      exact ⟨by rw [e];rfl,rfl⟩
    ·have e := hbad (by omega)
     have y1 : (bs[k].toNat : Int) < 48 := by omega
     clear hbad hget
     go_wp2
     go_ret
     exact ⟨by rw [e];rfl,rfl⟩
   ·have c1 : (bs.size : Int) ≤ (k : Int) := by rw [T.size];omega
    obtain rfl : k = d.length := by omega
    have e : res = (m : Int) := by
     have := HD.out
     rw [List.take_length] at this
     rw [← HR.out,numJ_dec HC.out this]
    go_wp2
    go_ret
    exact ⟨by rw [e];rfl,rfl⟩
theorem numM_numR3 (d : List UInt8) : numM 3 d = numR3 d := by
 by_cases h : 3 < d.length
 ·unfold numM numR3
  rw [if_pos h,if_pos (.inr (.inl h))]
 ·have e1 : numM 3 d = numM 4 d := by
   unfold numM
   rw [if_neg h,if_neg (by omega)]
  have e2 : Tf.numR d = numR3 d := by
   unfold Tf.numR numR3
   by_cases hc : d.length < 1 ∨ (1 < d.length ∧ d[0]? = some 48)
   ·rw [if_pos (by rcases hc with hc | hc;exact .inl hc;exact .inr (.inr hc)),if_pos (by rcases hc with hc | hc;exact .inl hc;exact .inr (.inr hc))]
   ·rw [if_neg (by rintro (hh | hh | hh);exact hc (.inl hh);omega;exact hc (.inr hh)),if_neg (by rintro (hh | hh | hh);exact hc (.inl hh);exact h hh;exact hc (.inr hh))]
  rw [e1,← numT_numM,Tf.numT_numR,e2]
theorem numJ_many (d : List UInt8) : decide ((0 : Int) ≤ numJ d) = (numM 3 d).isSome := by
 rw [numM_numR3]
 unfold numJ
 cases numR3 d with
 | none => rfl
 | some n => simp
end Go.Proofs.YtflbofdpfgkmcaaGreatDoor
