import Derived.Test.YtbgkfmodbofalaaGreatDoorPR06
import Derived.Test.YtbgkfmodbofalaaGreatDoorChecked
import Derived.LaidEql
import Derived.Stop.Asserts
import Derived.RowKitTokens
import Derived.Below
set_option maxRecDepth 100000
set_option maxHeartbeats 16000000
namespace Go.Proofs.YtbgkfmodbofalaaGreatDoor
section
open Go.RowKit Go.Shelf Go.Lib
structure Only (S : Nat -> Prop) (w w' : World) : Prop where
 os : w'.os = w.os
 tape : w'.tape = w.tape
 output : w'.output = w.output
 size : w.heap.size <= w'.heap.size
 block : ∀ j,j < w.heap.size -> ¬ S j -> w'.heap[j]? = w.heap[j]?
theorem Only.of {S : Nat -> Prop} {w w' : World} (h : Below w.heap.size w w') : Only S w w' := ⟨h.os,h.tape,h.output,h.size,fun j hj _ => h.block j hj⟩
theorem Only.below {S : Nat -> Prop} {w w' : World} (h : Only S w w') {B : Nat} (hS : ∀ j,S j -> B <= j) (hB : B <= w.heap.size) : Below B w w' :=
 ⟨h.os,h.tape,h.output,h.size,fun j hj => h.block j (by omega) fun hs => by have := hS j hs;omega⟩
theorem Only.trans {S S' : Nat -> Prop} {a b c : World} (h : Only S a b) (h' : Only S' b c) (hS : ∀ j,S' j -> S j \/ a.heap.size <= j) : Only S a c :=
 ⟨h'.os.trans h.os,h'.tape.trans h.tape,h'.output.trans h.output,Nat.le_trans h.size h'.size,fun j hj hs => (h'.block j (Nat.lt_of_lt_of_le hj h.size) fun h1 => by
  rcases hS j h1 with h2 | h2
  ·exact hs h2
  ·omega).trans (h.block j hj hs)⟩
theorem Only.cell {S : Nat -> Prop} {w w' : World} (h : Only S w w') {a : Addr} {u : Value} (hc : w.cell? a = some u) (hs : ¬ S a.block) : w'.cell? a = some u :=
 (World.cell?_of_block (h.block a.block (Zai hc) hs)).trans hc
def Zbk (l : Cf.Ens) : List Value := l.flatMap fun e => [Value.string (ba e.1),Value.string (ba e.2)]
theorem Zdd (l : Cf.Ens) (e : Cf.En) : Zbk (l ++ [e]) = Zbk l ++ [Value.string (ba e.1),Value.string (ba e.2)] := by simp [Zbk]
theorem Zhr : ∀ (l : Cf.Ens) (j : Nat) (hj : j < l.length),(Zbk l)[j * 2]? = some (.string (ba l[j].1)) /\ (Zbk l)[j * 2 + 1]? = some (.string (ba l[j].2))
 | [],j,hj => by simp at hj
 | x :: t,0,_ => by simp [Zbk]
 | x :: t,j + 1,hj => by
  have := Zhr t j (by simpa using hj)
  have e : Zbk (x :: t) = Value.string (ba x.1) :: Value.string (ba x.2) :: Zbk t := by simp [Zbk]
  rw [e,show (j + 1) * 2 = j * 2 + 1 + 1 by omega]
  simpa using this
def MERow (w : World) (v : Value) (T : Nat -> Prop) (l : Cf.Ens) : Prop :=
 ∃ p cap,v = .slice p l.length cap /\ l.length <= cap /\ (l ≠ [] -> ∃ g o,p = some ⟨g,o,none⟩ /\ T g /\ g < w.heap.size /\ ∀ j (hj : j < l.length),w.cell? ⟨g,o + j * 2,none⟩ = some (.string (ba l[j].1)) /\ w.cell? ⟨g,o + j * 2 + 1,none⟩ = some (.string (ba l[j].2)))
theorem MERow.same {w w' : World} {v : Value} {T : Nat -> Prop} {l : Cf.Ens} (h : MERow w v T l) (hz : w.heap.size <= w'.heap.size) (hb : ∀ k,T k -> w'.heap[k]? = w.heap[k]?) : MERow w' v T l := by
 obtain ⟨p,cap,e,h0,h1⟩ := h;refine ⟨p,cap,e,h0,fun hl => ?_⟩
 obtain ⟨g,o,e,hT,hg,hc⟩ := h1 hl;exact ⟨g,o,e,hT,Nat.lt_of_lt_of_le hg hz,fun j hj => ⟨(World.cell?_of_block (a := ⟨g,o + j * 2,none⟩) (hb g hT)).trans (hc j hj).1,(World.cell?_of_block (a := ⟨g,o + j * 2 + 1,none⟩) (hb g hT)).trans (hc j hj).2⟩⟩
structure MAt (T : Nat -> Prop) (W : World) (v : Value) (m : Nat) (l : Cf.Ens) : Prop where
 lies : ∃ mb u,v = .pointer (some ⟨mb,0,none⟩) /\ T mb /\ W.cell? ⟨mb,0,none⟩ = some (.int .i64 m) /\ W.cell? ⟨mb,1,none⟩ = some u /\ W.frozen? ⟨mb,1,none⟩ = false /\ MERow W u (fun k => T k /\ k ≠ mb) l
 lt : ∀ k,T k -> k < W.heap.size
theorem MAt.same {T : Nat -> Prop} {W W' : World} {v : Value} {m : Nat} {l : Cf.Ens} (h : MAt T W v m l) (hz : W.heap.size <= W'.heap.size) (hb : ∀ k,T k -> W'.heap[k]? = W.heap[k]?) : MAt T W' v m l := by
 obtain ⟨mb,u,e,hT,c0,c1,f1,hr⟩ := h.lies;exact ⟨⟨mb,u,e,hT,(World.cell?_of_block (a := ⟨mb,0,none⟩) (hb mb hT)).trans c0,(World.cell?_of_block (a := ⟨mb,1,none⟩) (hb mb hT)).trans c1,(World.frozen?_of_block (a := ⟨mb,1,none⟩) (hb mb hT)).trans f1,hr.same hz fun k hk => hb k hk.1⟩,fun k hk => Nat.lt_of_lt_of_le (h.lt k hk) hz⟩
theorem MAt.below {T : Nat -> Prop} {W W' : World} {v : Value} {m : Nat} {l : Cf.Ens} (h : MAt T W v m l) (hb : Below W.heap.size W W') : MAt T W' v m l := h.same hb.size fun k hk => hb.block k (h.lt k hk)
theorem Zpk {T : Nat -> Prop} {W : World} {v : Value} {m : Nat} {l : Cf.Ens} (h : MAt T W v m l) (hl : l.length <= 1000) (k : List UInt8) :
  Calls Tryz.prog 198 #[v,.string (ba k)] W fun e w' => ∃ r : Int,e = .returned (.int .i64 r) /\ w' = W /\ ((r = -1 /\ k ∉ Cf.keys l) \/ ∃ j : Nat,r = j /\ ∃ hj : j < l.length,l[j].1 = k /\ k ∉ Cf.keys (l.take j)) := by
 obtain ⟨mb,u,rfl,hT,c0,c1,f1,p,cap,rfl,hcap,hin⟩ := h.lies;have HI := hid1 hin;clear hin h;have zl : (l.length : Int) <= 1000 := by omega
 go_enter Tryz.func198,Tryz.ntmps198
 go_wp2;go_loopw [5] (fun i wr => ∃ j : Nat,j <= l.length /\ i = .int .i64 j /\ k ∉ Cf.keys (l.take j) /\ W = wr) (fun i _ => l.length - (intOf i).toNat)
 case atStart => exact ⟨0,Nat.zero_le _,rfl,by simp [Cf.keys],rfl⟩
 case round =>
  obtain ⟨j,hj,rfl,hz,rfl⟩ := hrel;have HZ := hid1 hz;clear hz;have j0 : (0 : Int) <= (j : Int) := by omega
  by_cases hlt : j < l.length
  ·have j1 : (j : Int) < (l.length : Int) := by omega
   obtain ⟨g,o,rfl,-,hg,hc⟩ := HI.out (by intro e;rw [e] at hlt;simp at hlt)
   have d0 := (hc j hlt).1;have HT : Hid (l[j].1 ≠ k -> k ∉ Cf.keys (l.take (j + 1))) := hid1 fun hne => by
    rw [List.take_succ_eq_append_getElem hlt];unfold Cf.keys;rw [List.map_append,List.mem_append];rintro (h | h)
    ·exact HZ.out h
    ·simp at h;exact hne h.symm
   have HP : Hid (l[j].1 = k -> ∃ i : Nat,(j : Int) = i /\ ∃ hi : i < l.length,l[i].1 = k /\ k ∉ Cf.keys (l.take i)) := hid1 fun he => ⟨j,rfl,hlt,he,HZ.out⟩
   clear hc HI HZ;generalize l[j].1 = y at *;by_cases he : y = k
   ·subst he;have HPP := hid1 (HP.out rfl);clear HP HT;go_wp2;go_ret;exact ⟨_,rfl,rfl,.inr HPP.out⟩
   ·have e1 : (y == k) = false := by simpa using he
    have HTT := hid1 (HT.out he);clear HP HT;go_wp2;exact ⟨⟨j + 1,by omega,by go_num,HTT.out,trivial⟩,by simp [intOf];omega⟩
  ·have j1 : (l.length : Int) <= (j : Int) := by omega
   have HN : Hid (k ∉ Cf.keys l) := hid1 (by
    have := HZ.out;rwa [List.take_of_length_le (by omega)] at this)
   clear HI HZ;go_wp2;go_ret;exact ⟨_,rfl,rfl,.inl ⟨rfl,HN.out⟩⟩
theorem Tryz.infoMEntry : (Tryz.prog.info? 273).map (fun i => (i.zero,i.size,i.bytes)) = some (some (.agg #[.string ⟨#[]⟩,.string ⟨#[]⟩]),2,32) := by kernel_rfl
theorem Zkf (W : World) (x y : Value) (t : TypeId) (n : Nat) (hn : W.heap.size = n) (j : Nat) (u : Value) (h : [x,y][j]? = some u) : (W.alloc (.cells #[x,y] t)).cell? ((⟨n,0,none⟩ : Addr).add j) = some u := by
 subst hn;rw [add_at];match j,h with
 | 0,h => simp at h;subst h;simp
 | 1,h => simp at h;subst h;simp
theorem MERow.of_owns {w : World} {B : Nat} {v : Value} {l : Cf.Ens} (h : w.ownsRow B 273 2 v l.length (Zbk l)) : ∃ p cap,v = .slice p l.length cap /\ l.length <= cap /\ (l ≠ [] -> ∃ g,p = some ⟨g,0,none⟩ /\ B <= g /\ g < w.heap.size /\ ∀ j (hj : j < l.length),w.cell? ⟨g,j * 2,none⟩ = some (.string (ba l[j].1)) /\ w.cell? ⟨g,j * 2 + 1,none⟩ = some (.string (ba l[j].2))) := by
 rcases h.2 with ⟨rfl,hn⟩ | ⟨g,cap,cur,rfl,hB,hb,h1,_,hcs,h4⟩
 ·exact ⟨none,0,by rw [hn],by omega,fun hl => absurd (List.length_eq_zero_iff.1 hn) hl⟩
 ·refine ⟨_,cap,rfl,h1,fun _ => ⟨g,rfl,hB,(Array.getElem?_eq_some_iff.1 hb).1,fun j hj => ?_⟩⟩
  have hg := Zhr l j hj;have key : ∀ i,i < l.length * 2 -> cur[i]? = (Zbk l)[i]? := fun i hi => by
   have := congrArg (fun x => x[i]?) h4
   simp only [List.getElem?_take,hi,if_true,Array.getElem?_toList] at this
   exact this
  refine ⟨?_,?_⟩
  ·simp only [World.cell?,hb];simpa using (key (j * 2) (by omega)).trans hg.1
  ·simp only [World.cell?,hb];simpa using (key (j * 2 + 1) (by omega)).trans hg.2
theorem Zvi {W : World} {B : Nat} {e : TypeId} {s n : Nat} {v : Value} {xs : List Value} (h : W.ownsRow B e s v (n + 1) xs) : ∃ g cap,v = .slice (some ⟨g,0,none⟩) (n + 1) cap /\ B <= g /\ n + 1 <= cap /\ g < W.heap.size := by
 rcases h.2 with ⟨_,h0⟩ | ⟨g,cap,cur,rfl,hB,hb,h1,_⟩
 ·omega
 ·exact ⟨g,cap,rfl,hB,h1,(Array.getElem?_eq_some_iff.1 hb).1⟩
theorem MAt.stored {T : Nat -> Prop} {W w5 : World} {mb m g o n cap : Nat} {l : Cf.Ens} (HT : T mb) (hmb : mb < W.heap.size) (B5 : Below W.heap.size W w5) (c0 : W.cell? ⟨mb,0,none⟩ = some (.int .i64 m)) (c1 : (W.cell? ⟨mb,1,none⟩).isSome = true) (f1 : W.frozen? ⟨mb,1,none⟩ = false)
  (hg : W.heap.size <= g) (hg2 : g < w5.heap.size) (hn : n = l.length) (hcap : n <= cap) (hc : ∀ j (hj : j < l.length),w5.cell? ⟨g,o + j * 2,none⟩ = some (.string (ba l[j].1)) /\ w5.cell? ⟨g,o + j * 2 + 1,none⟩ = some (.string (ba l[j].2))) :
  Only T W (w5.setCell ⟨mb,1,none⟩ (.slice (some ⟨g,o,none⟩) n cap)) /\ ∃ T',MAt T' (w5.setCell ⟨mb,1,none⟩ (.slice (some ⟨g,o,none⟩) n cap)) (.pointer (some ⟨mb,0,none⟩)) m l /\ ∀ j,T' j -> T j \/ W.heap.size <= j := by
 subst hn;have d0 := Zaa c0 B5;have d1 : (w5.cell? ⟨mb,1,none⟩).isSome = true := by rw [B5.cell (p := ⟨mb,1,none⟩) hmb];exact c1
 have e1 : w5.frozen? ⟨mb,1,none⟩ = false := (B5.frozen (p := ⟨mb,1,none⟩) hmb).trans f1;have hS : ∀ c,c ≠ mb -> (w5.setCell ⟨mb,1,none⟩ (.slice (some ⟨g,o,none⟩) l.length cap)).heap[c]? = w5.heap[c]? := fun c hc => Below.heap_setCell w5 ⟨mb,1,none⟩ _ c hc
 have hz : (w5.setCell ⟨mb,1,none⟩ (.slice (some ⟨g,o,none⟩) l.length cap)).heap.size = w5.heap.size := by simp
 have h5 := B5.size;refine ⟨⟨B5.os,B5.tape,B5.output,by rw [hz];exact h5,fun j hj hs => (hS j fun e => hs (e ▸ HT)).trans (B5.block j hj)⟩,fun j => j = mb \/ j = g,⟨⟨mb,_,rfl,.inl rfl,?_,World.cell?_setCell_same' _ _ _ d1,by rw [World.frozen?_setCell];exact e1,?_⟩,?_⟩,?_⟩
 ·rw [World.cell?_setCell_other]
  ·exact d0
  ·simp
 ·refine ⟨_,cap,rfl,hcap,fun _ => ⟨g,o,rfl,⟨.inr rfl,by omega⟩,by rw [hz];exact hg2,fun j hj => ⟨?_,?_⟩⟩⟩
  ·exact (World.cell?_of_block (a := ⟨g,o + j * 2,none⟩) (hS g (by omega))).trans (hc j hj).1
  ·exact (World.cell?_of_block (a := ⟨g,o + j * 2 + 1,none⟩) (hS g (by omega))).trans (hc j hj).2
 ·rintro j (rfl | rfl)
  ·rw [hz];omega
  ·rw [hz];exact hg2
 ·rintro j (rfl | rfl)
  ·exact .inl HT
  ·exact .inr hg
theorem Zju {T : Nat -> Prop} {W : World} {v : Value} {m : Nat} {l : Cf.Ens} (h : MAt T W v m l) (hm : 1 <= m) (hm2 : m <= 1000) (hl : l.length <= 1000) (k b : List UInt8) :
  Calls Tryz.prog 141 #[v,.string (ba k),.string (ba b)] W fun e w' => e = .returned (.tuple #[]) /\ Only T W w' /\ ∃ T',MAt T' w' v m (Cf.put m l k b) /\ ∀ j,T' j -> T j \/ W.heap.size <= j := by
 have hlt := h.lt;obtain ⟨mb,u,rfl,hT,c0,c1,f1,p,cap,rfl,hcap,hin⟩ := h.lies;have HI := hid1 hin;have hmb := hlt mb hT;obtain ⟨i0,hi,hz0,hz1,hz2⟩ := info_parts Tryz.infoMEntry;have zl : (l.length : Int) <= 1000 := by omega
 have zm : (m : Int) <= 1000 := by omega
 have zm1 : (1 : Int) <= (m : Int) := by omega
 have HT := hid1 hT;have HLt := hid1 hlt;have HPut : Hid (Cf.put m l k b = if m < (Cf.rm l k ++ [(k,b)]).length then (Cf.rm l k ++ [(k,b)]).drop 1 else Cf.rm l k ++ [(k,b)]) := hid1 rfl
 have hrml := Cf.rm_le l k;clear hin h hT hlt;go_enter Tryz.func141,Tryz.ntmps141
 go_wp2;go_loopw [6,7] (fun lv iv wr => ∃ j : Nat,j <= l.length /\ iv = .int .i64 j /\ wr.ownsRow W.heap.size 273 2 lv (Cf.rm (l.take j) k).length (Zbk (Cf.rm (l.take j) k)) /\ Below W.heap.size W wr) (fun _ iv _ => l.length - (intOf iv).toNat)
 case atStart => exact ⟨0,Nat.zero_le _,rfl,World.ownsRow_nil _ _ _ _,Below.refl _ _⟩
 case round =>
  obtain ⟨j,hj,rfl,hO,B⟩ := hrel;have HO := hid1 hO;clear hO;have j0 : (0 : Int) <= (j : Int) := by omega
  have d1 := Zaa c1 B;by_cases hlt : j < l.length
  ·have j1 : (j : Int) < (l.length : Int) := by omega
   obtain ⟨g,o,rfl,-,hg,hc⟩ := HI.out (by intro e;rw [e] at hlt;simp at hlt)
   have d2 := (B.cell (p := ⟨g,o + j * 2,none⟩) hg).trans (hc j hlt).1;have d3 := (B.cell (p := ⟨g,o + j * 2 + 1,none⟩) hg).trans (hc j hlt).2;have hrl : (Cf.rm (l.take j) k).length <= 1000 := by
    have := Cf.rm_le (l.take j) k;rw [List.length_take] at this;omega
   have HS : Hid (Cf.rm (l.take (j + 1)) k = Cf.rm (l.take j) k ++ (if l[j].1 = k then [] else [l[j]])) := hid1 (by
    rw [List.take_succ_eq_append_getElem hlt,Cf.rm_append];congr 1
    unfold Cf.rm;by_cases e : l[j].1 = k
    ·rw [if_pos e,List.filter_cons_of_neg (by simp [e])]
     rfl
    ·rw [if_neg e,List.filter_cons_of_pos (by simp [e])]
     rfl)
   clear hc HI;generalize l[j] = y at *;by_cases he : y.1 = k
   ·rw [if_pos he,List.append_nil] at HS;have e1 : (y.1 == k) = true := by simpa using he
    clear he;go_wp2;exact ⟨⟨j + 1,by omega,by go_num,by rw [HS.out];exact HO.out,B⟩,by simp [intOf];omega⟩
   ·rw [if_neg he] at HS;have e1 : (y.1 == k) = false := by simpa using he
    have hrow := HO.out;have hml : (Cf.rm (l.take j) k).length + 1 <= maxLen := by unfold maxLen;omega
    have hbz := B.size;clear he;go_wp2_with (first
     | (at_builtin;refine wpList_append_own _ rfl _ _ 112 rfl W.heap.size 273 i0 (.agg #[.string ⟨#[]⟩,.string ⟨#[]⟩]) 2 32 Tryz.underlying112 hi hz0 hz1 hz2 rfl (by decide) _ _ _ rfl (hrow.alloc _) ⟨wr.heap.size,0,none⟩ 1 1 [.string (ba y.1),.string (ba y.2)] rfl rfl (Zkf _ _ _ _ _ (by simp)) (by simp [Value.oneCell']) hml (by omega) (by simp;omega) ?_;intro v' w4 hown' hgrow _)
     | fail)
    exact ⟨⟨j + 1,by omega,by go_num,by rw [HS.out,List.length_append,Zdd];exact hown',Zak B hbz hrow hgrow⟩,by simp [intOf];omega⟩
  ·have j1 : (l.length : Int) <= (j : Int) := by omega
   obtain rfl : j = l.length := by omega
   have hrow : wr.ownsRow W.heap.size 273 2 u6 (Cf.rm l k).length (Zbk (Cf.rm l k)) := by
    have := HO.out;rwa [List.take_length] at this
   have hml : (Cf.rm l k).length + 1 <= maxLen := by unfold maxLen;omega
   have hbz := B.size;have HB5 := hid1 fun (w5 : World) (hgr : (wr.alloc (.cells #[.string (ba k),.string (ba b)] 273)).grownBy w5 u6.ownBlock) => Zak B hbz hrow hgr
   have hf0 := (B.frozen (p := ⟨mb,1,none⟩) hmb).trans f1;have HF1 := hid1 f1;have HC0 := hid1 c0;have HC1 := hid1 c1;clear HO HI;by_cases hbig : m < (Cf.rm l k ++ [(k,b)]).length
   ·rw [if_pos hbig] at HPut;rw [List.length_append,List.length_singleton] at hbig;have hb1 : (m : Int) < ((Cf.rm l k).length : Int) + 1 := by omega
    have hb2 : ((Cf.rm l k).length : Int) <= 1000 := by omega
    go_wp2_with (first
     | (at_builtin;refine wpList_append_own _ rfl _ _ 112 rfl W.heap.size 273 i0 (.agg #[.string ⟨#[]⟩,.string ⟨#[]⟩]) 2 32 Tryz.underlying112 hi hz0 hz1 hz2 rfl (by decide) _ _ _ rfl (hrow.alloc _) ⟨wr.heap.size,0,none⟩ 1 1 [.string (ba k),.string (ba b)] rfl rfl (Zkf _ _ _ _ _ (by simp)) (by simp [Value.oneCell']) hml (by omega) (by simp;omega) ?_;intro v5 w5 hown5 hgrow5 _;(obtain ⟨g5,cap5,rfl,hg5,hcap5,hgl5⟩ := Zvi hown5);(have B5 := HB5.out _ hgrow5);(have q0 := Zaa c0 B5);(have q1 := Zaa c1 B5);(have q2 := (B5.frozen (p := ⟨mb,1,none⟩) hmb).trans f1);(have q3 : ¬ cap5 = 1 := by omega);(have q4 : 1 <= cap5 := by omega);(have HO5 := hid1 hown5);clear hown5 hgrow5)
     | fail)
    go_wp2;go_end0
    obtain ⟨p6,cap6,e6,-,hc6⟩ := MERow.of_owns (l := Cf.rm l k ++ [(k,b)]) (by rw [List.length_append,List.length_singleton,Zdd];exact HO5.out)
    obtain ⟨g6,e7,-,-,hc7⟩ := hc6 (by simp)
    obtain rfl : g5 = g6 := by
     rw [e7] at e6;simp only [Value.slice.injEq,Option.some.injEq,Addr.mk.injEq] at e6;exact e6.1.1
    have hdl : ((Cf.rm l k ++ [(k,b)]).drop 1).length = (Cf.rm l k).length := by simp
    obtain ⟨h1,T',h2,h3⟩ := MAt.stored (g := g5) (o := 2) (n := (Cf.rm l k).length) (cap := cap5 - 1) (l := (Cf.rm l k ++ [(k,b)]).drop 1) HT.out hmb B5 HC0.out (by rw [HC1.out];rfl) HF1.out hg5 hgl5 hdl.symm (by omega) (fun j hj => by
     have hj' : 1 + j < (Cf.rm l k ++ [(k,b)]).length := by rw [List.length_drop] at hj;omega
     have := hc7 (1 + j) hj';rw [List.getElem_drop];rw [show 2 + j * 2 = (1 + j) * 2 by omega]
     exact this)
    refine ⟨rfl,h1,T',?_,h3⟩;rw [HPut.out];exact h2
   ·rw [if_neg hbig] at HPut;rw [List.length_append,List.length_singleton] at hbig;have hb1 : ((Cf.rm l k).length : Int) + 1 <= (m : Int) := by omega
    have hb2 : ((Cf.rm l k).length : Int) <= 1000 := by omega
    go_wp2_with (first
     | (at_builtin;refine wpList_append_own _ rfl _ _ 112 rfl W.heap.size 273 i0 (.agg #[.string ⟨#[]⟩,.string ⟨#[]⟩]) 2 32 Tryz.underlying112 hi hz0 hz1 hz2 rfl (by decide) _ _ _ rfl (hrow.alloc _) ⟨wr.heap.size,0,none⟩ 1 1 [.string (ba k),.string (ba b)] rfl rfl (Zkf _ _ _ _ _ (by simp)) (by simp [Value.oneCell']) hml (by omega) (by simp;omega) ?_;intro v5 w5 hown5 hgrow5 _;(obtain ⟨g5,cap5,rfl,hg5,hcap5,hgl5⟩ := Zvi hown5);(have B5 := HB5.out _ hgrow5);(have q0 := Zaa c0 B5);(have q1 := Zaa c1 B5);(have q2 := (B5.frozen (p := ⟨mb,1,none⟩) hmb).trans f1);(have q4 : 1 <= cap5 := by omega);(have HO5 := hid1 hown5);clear hown5 hgrow5)
     | fail)
    go_wp2;go_end0
    obtain ⟨p6,cap6,e6,-,hc6⟩ := MERow.of_owns (l := Cf.rm l k ++ [(k,b)]) (by rw [List.length_append,List.length_singleton,Zdd];exact HO5.out)
    obtain ⟨g6,e7,-,-,hc7⟩ := hc6 (by simp)
    obtain rfl : g5 = g6 := by
     rw [e7] at e6;simp only [Value.slice.injEq,Option.some.injEq,Addr.mk.injEq] at e6;exact e6.1.1
    obtain ⟨h1,T',h2,h3⟩ := MAt.stored (g := g5) (o := 0) (n := (Cf.rm l k).length + 1) (cap := cap5) (l := Cf.rm l k ++ [(k,b)]) HT.out hmb B5 HC0.out (by rw [HC1.out];rfl) HF1.out hg5 hgl5 (by simp) (by omega) (fun j hj => by
     have := hc7 j hj;rw [Nat.zero_add];exact this)
    refine ⟨rfl,h1,T',?_,h3⟩;rw [HPut.out];exact h2
theorem Zwc {l : Cf.Ens} {j : Nat} (hj : j < l.length) {k : List UInt8} (h1 : l[j].1 = k) (h2 : k ∉ Cf.keys (l.take j)) : Cf.find l k = some l[j].2 := by
 have e : l = l.take j ++ l[j] :: l.drop (j + 1) := by rw [<- List.drop_eq_getElem_cons hj,List.take_append_drop]
 have hn : (l.take j).find? (fun e => e.1 == k) = none := List.find?_eq_none.2 fun x hx => by
  have : x.1 ≠ k := fun e => h2 (List.mem_map.2 ⟨x,hx,e⟩)
  simpa using this
 unfold Cf.find;have : l.find? (fun e => e.1 == k) = some l[j] := by
  generalize l[j] = y at *;rw [e,List.find?_append,hn,List.find?_cons_of_pos (by simp [h1])]
  rfl
 rw [this];rfl
theorem Zip {l : Cf.Ens} {k : List UInt8} (h : k ∉ Cf.keys l) : Cf.find l k = none := by
 cases hf : Cf.find l k with
 | none => rfl
 | some b => exact absurd (List.mem_map.2 ⟨_,Cf.find_some hf,rfl⟩) h
theorem Zsw {T : Nat -> Prop} {W : World} {v : Value} {m : Nat} {l : Cf.Ens} (h : MAt T W v m l) (hm : 1 <= m) (hm2 : m <= 1000) (hl : l.length <= 1000) (k : List UInt8) :
  Calls Tryz.prog 140 #[v,.string (ba k)] W fun e w' => e = .returned (.tuple #[.string (ba ((Cf.find l k).getD [])),.bool (Cf.find l k).isSome]) /\ Only T W w' /\ ∃ T',MAt T' w' v m (Cf.get m l k) /\ ∀ j,T' j -> T j \/ W.heap.size <= j := by
 have HF := hid1 (Zpk h hl k);have HP := hid1 fun b => Zju h hm hm2 hl k b
 have HM := hid1 h;obtain ⟨mb,u,rfl,hT,c0,c1,f1,p,cap,rfl,hcap,hin⟩ := h.lies;have HI := hid1 hin;have zl : (l.length : Int) <= 1000 := by omega
 have HG : Hid (∀ b,Cf.find l k = some b -> Cf.get m l k = Cf.put m l k b) := hid1 fun b hb => by unfold Cf.get;rw [hb]
 have HG0 : Hid (Cf.find l k = none -> Cf.get m l k = l) := hid1 fun hb => by unfold Cf.get;rw [hb]
 clear hin h hT;go_enter Tryz.func140,Tryz.ntmps140
 go_wp2_with fail;refine HF.out.mono ?_;rintro e w1 ⟨r,rfl,rfl,hr⟩;clear HF;rcases hr with ⟨rfl,hno⟩ | ⟨j,rfl,hj,h1,h2⟩
 ·have hf := Zip hno;have HQ := hid1 (HG0.out hf);have HE := hid1 hf;clear hf hno HG HG0 HP HI;go_wp2;go_ret2;refine ⟨by rw [HE.out];rfl,Only.of (Below.refl _ _),T,?_,fun j hj => .inl hj⟩
  rw [HQ.out];exact HM.out
 ·have hf := Zwc hj h1 h2;have HQ := hid1 (HG.out _ hf);have HE := hid1 hf;obtain ⟨g,o,rfl,-,hg,hc⟩ := HI.out (by intro e;rw [e] at hj;simp at hj)
  have d3 := (hc j hj).2;have j0 : (0 : Int) <= (j : Int) := by omega
  have j1 : (j : Int) < (l.length : Int) := by omega
  have HPj := hid1 (HP.out l[j].2);clear hf HG HG0 HP HI hc h1 h2;generalize l[j].2 = y at *;go_wp2_with fail;refine HPj.out.mono ?_;rintro e w2 ⟨rfl,hO,T',hM,hTT⟩;have HR := hid1 (And.intro hO (And.intro hM hTT));clear HPj hO hM hTT;go_wp2;go_ret2;refine ⟨by rw [HE.out];rfl,HR.out.1,T',?_,HR.out.2.2⟩
  rw [HQ.out];exact HR.out.2.1
open Go.RowKit Go.Shelf Go.Lib Go.Maps
theorem Zfs (n : Nat) (hn : n < 256) (w : World) : Calls Tryz.prog 165 #[.int .i64 n] w fun e w' => e = .returned (.string (ba [UInt8.ofNat n])) /\ Below w.heap.size w w' := by
 have z0 : (0 : Int) <= (n : Int) := by omega
 have z1 : (n : Int) < 256 := by omega
 have hk := (MapKept.heap_alloc w (.cells #[.int .u8 (n : Int)] 5)).1
 have hcv : (convert 152 9 (.slice (some ⟨w.heap.size,0,none⟩) 1 1)).run Tryz.prog (w.alloc (.cells #[.int .u8 (n : Int)] 5)) = .ok (.string (ba [UInt8.ofNat n])) (w.alloc (.cells #[.int .u8 (n : Int)] 5)) := run_convert_bytes_back (P := Tryz.prog) (w.alloc (.cells #[.int .u8 (n : Int)] 5)) 152 9 5 ⟨w.heap.size,0,none⟩ 1 [UInt8.ofNat n] Tryz.underlying152 Tryz.underlying5 Tryz.underlying9
  (fun j hj => by
   match j,hj with
   | 0,_ =>
    have e : ((UInt8.ofNat n).toNat : Int) = (n : Int) := by simp;omega
    show _ = some (Value.int .u8 ((UInt8.ofNat n).toNat : Int))
    rw [e];exact Zac hk rfl)
 go_enter Tryz.func165,Tryz.ntmps165
 go_wp2;go_ret;exact ⟨rfl,(Below.refl _ w).alloc (Nat.le_refl _) _⟩
theorem add48 (n : Nat) : 48 + UInt8.ofNat n = UInt8.ofNat (48 + n) := (UInt8.ofNat_add 48 n).symm
theorem Zpv (n : Nat) (h : n <= 1000000) : (Lib.decDigits n).length <= 21 := by
 have := Lib.itoa_length_le (n : Int) (by omega) (by omega)
 rwa [Lib.itoa_nonneg] at this
theorem Zmj : ∀ (n : Nat),n <= 1000000 -> ∀ (w : World),Calls Tryz.prog 154 #[.int .i64 (-(n : Int))] w fun e w' => e = .returned (.string (ba (Lib.decDigits n))) /\ Below w.heap.size w w' := by
 intro n
 induction n using Nat.strongRecOn with
 | _ n ih =>
  intro hn w
  rw [Lib.decDigits];by_cases h : n < 10
  ·rw [dif_pos h];have HB : Hid (∀ W,Calls Tryz.prog 165 #[.int .i64 (48 + (n : Int))] W fun e w' => e = .returned (.string (ba [UInt8.ofNat (48 + n)])) /\ Below W.heap.size W w') := fun W => by
    have := Zfs (48 + n) (by omega) W
    rwa [show ((48 + n : Nat) : Int) = 48 + (n : Int) by omega] at this
   have z1 : (-10 : Int) < -(n : Int) := by omega
   have z2 : (0 : Int) <= (n : Int) := by omega
   have z3 : (n : Int) < 10 := by omega
   clear ih;go_enter Tryz.func154,Tryz.ntmps154
   go_wp2_with fail;refine (HB.out _).mono ?_;rintro e w1 ⟨rfl,g1⟩;go_wp2;go_ret;exact ⟨congrArg (fun x => Ending.returned (.string (ba x))) (show [48 + UInt8.ofNat n] = [UInt8.ofNat (48 + n)] by rw [add48]),g1⟩
  ·rw [dif_neg h];have HR : Hid (∀ W,Calls Tryz.prog 154 #[.int .i64 (-((n / 10 : Nat) : Int))] W fun e w' => e = .returned (.string (ba (Lib.decDigits (n / 10)))) /\ Below W.heap.size W w') := fun W => ih (n / 10) (by omega) (by omega) W
   have HB : Hid (∀ W,Calls Tryz.prog 165 #[.int .i64 (48 + ((n % 10 : Nat) : Int))] W fun e w' => e = .returned (.string (ba [UInt8.ofNat (48 + n % 10)])) /\ Below W.heap.size W w') := fun W => by
    have := Zfs (48 + n % 10) (by omega) W
    rwa [show ((48 + n % 10 : Nat) : Int) = 48 + ((n % 10 : Nat) : Int) by omega] at this
   have z1 : ¬ (-10 : Int) < -(n : Int) := by omega
   have z1' : -(n : Int) <= -10 := by omega
   have z2 : (0 : Int) <= (n : Int) := by omega
   have z3 : (n : Int) <= 1000000 := by omega
   have q1 : (-(n : Int)).tdiv 10 = -((n / 10 : Nat) : Int) := by rw [Int.neg_tdiv];rfl
   have q2 : (-(n : Int)).tmod 10 = -((n % 10 : Nat) : Int) := by rw [Int.neg_tmod];rfl
   have q3 : ((n / 10 : Nat) : Int) <= 100000 := by omega
   have q4 : (0 : Int) <= ((n / 10 : Nat) : Int) := by omega
   have q5 : ((n % 10 : Nat) : Int) < 10 := by omega
   have q6 : (0 : Int) <= ((n % 10 : Nat) : Int) := by omega
   have hlen := Zpv (n / 10) (by omega)
   clear ih;go_enter Tryz.func154,Tryz.ntmps154
   go_wp2_with fail;refine (HR.out _).mono ?_;rintro e w1 ⟨rfl,g1⟩;go_wp2_with fail;refine (HB.out _).mono ?_;rintro e w2 ⟨rfl,g2⟩;go_wp2;go_ret;exact ⟨congrArg (fun x => Ending.returned (.string (ba x))) (show Lib.decDigits (n / 10) ++ [48 + UInt8.ofNat (n % 10)] = Lib.decDigits (n / 10) ++ [UInt8.ofNat (48 + n % 10)] by rw [add48]),g1.trans (g2.mono g1.size)⟩
theorem Zfi (n : Nat) (hn : n <= 1000000) (w : World) : Calls Tryz.prog 100 #[.int .i64 (n : Int)] w fun e w' => e = .returned (.string (ba (Lib.decDigits n))) /\ Below w.heap.size w w' := by
 have HB : Hid (∀ W,Calls Tryz.prog 154 #[.int .i64 (-(n : Int))] W fun e w' => e = .returned (.string (ba (Lib.decDigits n))) /\ Below W.heap.size W w') := fun W => Zmj n hn W
 have z1 : ¬ (n : Int) < 0 := by omega
 have z2 : (0 : Int) <= (n : Int) := by omega
 have z3 : (n : Int) <= 1000000 := by omega
 go_enter Tryz.func100,Tryz.ntmps100
 go_wp2_with fail;refine (HB.out _).mono ?_;rintro e w1 ⟨rfl,g1⟩;go_wp2;go_ret;exact ⟨rfl,g1⟩
end
section
open Go.RowKit Go.Extern.Stop Go.Stop Go.Extern
theorem Tryz.isTypeOf (v : Value) (w : World) : (callFunc 207 #[.iface 407 v]).run Tryz.prog w = .ok (.value (.iface 340 (.agg #[.pointer (some ⟨21,407,none⟩)]))) w := by kernel_rfl
theorem Tryz.isComparable (w : World) : (callFunc 383 #[.agg #[.pointer (some ⟨21,407,none⟩)]]).run Tryz.prog w = .ok (.value (.bool true)) w := by kernel_rfl
theorem Tryz.isMethodComparable (v : Value) (w : World) : (Go.method 541 340 v "Comparable").run Tryz.prog w = .ok (383, v) w := by kernel_rfl
theorem Tryz.isComp : (Tryz.prog.info? 407).map (·.comparable) = some true := by kernel_rfl
theorem Tryz.isSize : (Tryz.prog.info? 409).map (·.size) = some 1 := by kernel_rfl
theorem Tryz.noIsE (v : Value) (xT : TypeId) (w : World) : (Instr.typeAssert (.iface 407 v) xT 351 true).run Tryz.prog w = .ok (.tuple #[.nilIface,.bool false]) w := run_typeAssert_lacksB Tryz.underlying351 (by kernel_rfl) (by kernel_rfl) v xT w
theorem Tryz.noAsE (v : Value) (xT : TypeId) (w : World) : (Instr.typeAssert (.iface 407 v) xT 344 true).run Tryz.prog w = .ok (.tuple #[.nilIface,.bool false]) w := run_typeAssert_lacksB Tryz.underlying344 (by kernel_rfl) (by kernel_rfl) v xT w
theorem Tryz.noUnwrapE (v : Value) (xT : TypeId) (w : World) : (Instr.typeAssert (.iface 407 v) xT 347 true).run Tryz.prog w = .ok (.tuple #[.nilIface,.bool false]) w := run_typeAssert_lacksB Tryz.underlying347 (by kernel_rfl) (by kernel_rfl) v xT w
theorem Tryz.noUnwrapsE (v : Value) (xT : TypeId) (w : World) : (Instr.typeAssert (.iface 407 v) xT 349 true).run Tryz.prog w = .ok (.tuple #[.nilIface,.bool false]) w := run_typeAssert_lacksB Tryz.underlying349 (by kernel_rfl) (by kernel_rfl) v xT w
theorem Zzj (a : Addr) (w : World) :
  Calls Tryz.prog 151 #[.iface 407 (.pointer (some a)),.iface 407 (.pointer (some a))] w fun e w' => e = .returned (.bool true) /\ w' = w := by
 obtain ⟨i,hi,hcmp⟩ := Option.map_eq_some_iff.1 Tryz.isComp;obtain ⟨j,hj,hjs⟩ := Option.map_eq_some_iff.1 Tryz.isSize;have tT := Tryz.isTypeOf;have cT := Tryz.isComparable;have mR := Tryz.isMethodComparable;have heq := run_eql_iface_ptr_same (P := Tryz.prog) w a Tryz.underlying25 Tryz.underlying407 hi hcmp hj;go_enter Tryz.func151,Tryz.ntmps151
 go_wp2;refine wp_loop_rounds 1 ?_;rw [rounds_succ];go_wp2;go_ret;exact ⟨rfl,rfl⟩
theorem Zye (a b : Addr) (ca cb : Array Value) (ta tb : TypeId) (w : World) (hne : a ≠ b) (ha : w.heap[a.block]? = some (.cells ca ta (0,0))) (hb : w.heap[b.block]? = some (.cells cb tb (0,0))) :
  Calls Tryz.prog 151 #[.iface 407 (.pointer (some a)),.iface 407 (.pointer (some b))] w fun e w' => e = .returned (.bool false) /\ w' = w := by
 obtain ⟨i,hi,hcmp⟩ := Option.map_eq_some_iff.1 Tryz.isComp;obtain ⟨j,hj,hjs⟩ := Option.map_eq_some_iff.1 Tryz.isSize;have tT := Tryz.isTypeOf;have cT := Tryz.isComparable;have mR := Tryz.isMethodComparable;have nE := Tryz.noIsE;have uE := Tryz.noUnwrapE;have vE := Tryz.noUnwrapsE
 have heq := run_eql_iface_ptr_other (P := Tryz.prog) w Tryz.underlying25 Tryz.underlying407 hi hcmp hj (by rw [hjs];decide) hne ha hb
 go_enter Tryz.func151,Tryz.ntmps151
 go_wp2;refine wp_loop_rounds 1 ?_;rw [rounds_succ];go_wp2;go_ret;exact ⟨rfl,rfl⟩
end
section
open Go.RowKit Go.Extern.Stop Go.Stop Go.Extern
theorem Tryz.valueOfP (t : Addr) (w : World) : (callFunc 203 #[.iface 229 (.pointer (some t))]).run Tryz.prog w
  = .ok (.value (.agg #[.pointer (some ⟨21,229,none⟩),.pointer (some ⟨w.heap.size,0,none⟩),.int .u64 150])) (w.alloc (.cells #[.pointer (some t)] 229)) := by kernel_rfl
theorem Tryz.typeP (a : Addr) (w : World) : (callFunc 204 #[.agg #[.pointer (some ⟨21,229,none⟩),.pointer (some a),.int .u64 150]]).run Tryz.prog w
  = .ok (.value (.iface 340 (.agg #[.pointer (some ⟨21,229,none⟩)]))) w := by kernel_rfl
theorem Tryz.methodKind (h : Value) (w : World) : (Go.method 541 340 (.agg #[h]) "Kind").run Tryz.prog w = .ok (371, h) w := by kernel_rfl
theorem Tryz.methodElem (h : Value) (w : World) : (Go.method 541 340 (.agg #[h]) "Elem").run Tryz.prog w = .ok (384, .agg #[h]) w := by kernel_rfl
theorem Tryz.methodImplements (h : Value) (w : World) : (Go.method 541 340 (.agg #[h]) "Implements").run Tryz.prog w = .ok (385, .agg #[h]) w := by kernel_rfl
theorem Tryz.methodAssignableTo (h : Value) (w : World) : (Go.method 541 340 (.agg #[h]) "AssignableTo").run Tryz.prog w = .ok (382, .agg #[h]) w := by kernel_rfl
theorem Tryz.kindP (w : World) : (callFunc 371 #[.pointer (some ⟨21,229,none⟩)]).run Tryz.prog w = .ok (.value (.int .u8 22)) w := by kernel_rfl
theorem Tryz.kindF (w : World) : (callFunc 371 #[.pointer (some ⟨21,188,none⟩)]).run Tryz.prog w = .ok (.value (.int .u8 22)) w := by kernel_rfl
theorem Tryz.elemP (w : World) : (callFunc 384 #[.agg #[.pointer (some ⟨21,229,none⟩)]]).run Tryz.prog w = .ok (.value (.iface 340 (.agg #[.pointer (some ⟨21,188,none⟩)]))) w := by kernel_rfl
theorem Tryz.implementsF (w : World) : (callFunc 385 #[.agg #[.pointer (some ⟨21,188,none⟩)],.iface 340 (.agg #[.pointer (some ⟨21,25,none⟩)])]).run Tryz.prog w = .ok (.value (.bool true)) w := by kernel_rfl
theorem Tryz.typeOfF (v : Value) (w : World) : (callFunc 207 #[.iface 188 v]).run Tryz.prog w = .ok (.value (.iface 340 (.agg #[.pointer (some ⟨21,188,none⟩)]))) w := by kernel_rfl
theorem Tryz.assignableF (w : World) : (callFunc 382 #[.agg #[.pointer (some ⟨21,188,none⟩)],.iface 340 (.agg #[.pointer (some ⟨21,188,none⟩)])]).run Tryz.prog w = .ok (.value (.bool true)) w := by kernel_rfl
theorem Tryz.assignableE (w : World) : (callFunc 382 #[.agg #[.pointer (some ⟨21,407,none⟩)],.iface 340 (.agg #[.pointer (some ⟨21,188,none⟩)])]).run Tryz.prog w = .ok (.value (.bool false)) w := by kernel_rfl
theorem Tryz.valueOfF (e : Addr) (w : World) : (callFunc 203 #[.iface 188 (.pointer (some e))]).run Tryz.prog w
  = .ok (.value (.agg #[.pointer (some ⟨21,188,none⟩),.pointer (some ⟨w.heap.size,0,none⟩),.int .u64 150])) (w.alloc (.cells #[.pointer (some e)] 188)) := by kernel_rfl
theorem rlm (z : Sem Value) (f : TypeId -> Addr -> Nat -> Nat -> Sem Value) (v : Value) :
  ReflectliteValue.method z f #[v] = (do match <- ReflectliteValue.parts v with | none => z | some (t,a,fl) => f t a fl (fl % 32)) := rfl
theorem Tryz.partsP (a : Addr) (w : World) : (ReflectliteValue.parts (.agg #[.pointer (some ⟨21,229,none⟩),.pointer (some a),.int .u64 150])).run Tryz.prog w = .ok (some (229,a,150)) w := by kernel_rfl
theorem Tryz.isNilP (a p : Addr) (W : World) (ha : W.cell? a = some (.pointer (some p))) :
  (ReflectliteValue.method (ReflectliteValue.valueError "reflectlite.Value.IsNil" 0) ReflectliteValue.isNil #[.agg #[.pointer (some ⟨21, 229, none⟩), .pointer (some a), .int .u64 150]]).run Tryz.prog W = .ok (.bool false) W := by
 rw [rlm];simp only [Sem.run_bind,Tryz.partsP,Result.andThen];simp [ReflectliteValue.isNil,loadVar,isAgg,underlying,Tryz.underlying229,ha,Result.andThen]
theorem Zzq (x t : Addr) (w : World) (hg : w.cell? ⟨12,0,none⟩ = some (.iface 340 (.agg #[.pointer (some ⟨21,25,none⟩)]))) :
  Calls Tryz.prog 150 #[.iface 407 (.pointer (some x)),.iface 229 (.pointer (some t))] w fun ev w' => ev = .returned (.bool false) /\ Below w.heap.size w w' := by
 have h8 := @run_callFunc_extern Tryz.prog 205 _ (ReflectliteValue.method (ReflectliteValue.valueError "reflectlite.Value.IsNil" 0) ReflectliteValue.isNil) Tryz.func205 (by kernel_rfl) (by kernel_rfl) (by kernel_rfl) (by kernel_rfl)
 have tO := Tryz.isTypeOf;have mA := Tryz.methodAssignableTo;have aE := Tryz.assignableE;have f6 := Tryz.valueOfP;have f7 := Tryz.typeP;have mK := Tryz.methodKind;have mE := Tryz.methodElem;have mI := Tryz.methodImplements;have k27 := Tryz.kindP;have k25 := Tryz.kindF;have e27 := Tryz.elemP;have i25 := Tryz.implementsF;have nE := Tryz.noAsE;have uE := Tryz.noUnwrapE;have vE := Tryz.noUnwrapsE
 have n8 := Tryz.isNilP ⟨w.heap.size,0,none⟩ t ((w.alloc (.cells #[.pointer (some t)] 229)).alloc (.cells #[.pointer (some ⟨21,229,none⟩),.pointer (some ⟨w.heap.size,0,none⟩),.int .u64 150] 282)) (by simp)
 have hlt : 12 < w.heap.size := by
  rcases Nat.lt_or_ge 12 w.heap.size with h | h
  ·exact h
  ·simp [World.cell?,Array.getElem?_eq_none h] at hg
 have hg2 : ((w.alloc (.cells #[.pointer (some t)] 229)).alloc (.cells #[.pointer (some ⟨21,229,none⟩),.pointer (some ⟨w.heap.size,0,none⟩),.int .u64 150] 282)).cell? ⟨12,0,none⟩ = some (.iface 340 (.agg #[.pointer (some ⟨21,25,none⟩)])) := by
  rw [World.cell?_alloc_lt _ _ ⟨12,0,none⟩ (by simp;omega),World.cell?_alloc_lt _ _ ⟨12,0,none⟩ hlt];exact hg
 go_enter Tryz.func150,Tryz.ntmps150
 go_wp2;refine wp_loop_rounds 1 ?_;rw [rounds_succ];go_wp2;go_ret;exact ⟨rfl,(((Below.refl _ w).alloc (Nat.le_refl _) _).alloc (by simp) _).alloc (by simp;omega) _⟩
end
end Go.Proofs.YtbgkfmodbofalaaGreatDoor
