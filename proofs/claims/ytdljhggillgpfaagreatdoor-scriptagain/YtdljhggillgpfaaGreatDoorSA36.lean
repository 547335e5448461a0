import Derived.Test.YtdljhggillgpfaaGreatDoorSA34
import Derived.Test.YtdljhggillgpfaaGreatDoorSA35
set_option maxRecDepth 100000
set_option maxHeartbeats 8000000
namespace Go.Proofs.YtdljhggillgpfaaGreatDoor
open Go.RowKit Go.Shelf Go.Lib
theorem rbuilder_below {w w' : World} {B b : Nat} {u : Value} {bs : List Value} (h : Lib.BuilderAtF 187 5 B b u bs w) (hb : Below w.heap.size w w') : Lib.BuilderAtF 187 5 B b u bs w' := by
 obtain ⟨h1,v,h2,h3,h4⟩ := h
 exact ⟨h1,v,(hb.block b (Array.getElem?_eq_some_iff.1 h2).1).trans h2,h3.kept (row := none) ⟨hb.os,hb.tape,hb.output,hb.size,fun k hk _ => hb.block k hk⟩ (by cases v.ownBlock <;> simp),h4⟩
theorem isBuilder_belowR {w w' : World} {B b : Nat} {bs : List Value} (h : Lib.IsBuilderF 187 5 B b bs w) (hb : Below w.heap.size w w') : Lib.IsBuilderF 187 5 B b bs w' :=
 h.imp (fun h => rbuilder_below h hb) (fun h => rbuilder_below h hb)
namespace Rd
def esc (c : UInt8) : Option UInt8 := if c = 34 ∨ c = 92 then some c else if c = 110 then some 10 else none
def escAt (s : List UInt8) (k : Nat) : Option UInt8 := s[k]?.bind esc
theorem unq_q (r : List UInt8) : unq (34 :: r) = some ([],r) := by
 cases r with
 | nil => rfl
 | cons d r => simp [unq]
theorem unq_e (r : List UInt8) : unq (92 :: r) = match r with | [] => none | d :: r => (esc d).bind fun c => (unq r).map fun x => (c :: x.1,x.2) := by
 cases r with
 | nil => rfl
 | cons d r =>
  conv => lhs;unfold unq
  unfold esc
  simp only [show ¬ (92 : UInt8) = 34 by decide,if_false,if_true]
  split
  ·rfl
  ·split <;> rfl
theorem unq_o {c : UInt8} (r : List UInt8) (h1 : c ≠ 34) (h2 : c ≠ 92) : unq (c :: r) = (unq r).map fun x => (c :: x.1,x.2) := by
 cases r with
 | nil => simp [unq,h1]
 | cons d r =>
  conv => lhs;unfold unq
  rw [if_neg h1,if_neg h2]
def unqA (bs : List UInt8) (r : List UInt8) : Option (List UInt8 × List UInt8) := (unq r).map fun x => (bs ++ x.1,x.2)
theorem unqA_o {bs : List UInt8} {c : UInt8} (r : List UInt8) (h1 : c ≠ 34) (h2 : c ≠ 92) : unqA bs (c :: r) = unqA (bs ++ [c]) r := by
 unfold unqA
 rw [unq_o r h1 h2,Option.map_map]
 congr 1
 funext x
 simp
theorem unqA_e {bs : List UInt8} {c d : UInt8} (r : List UInt8) (h : esc d = some c) : unqA bs (92 :: d :: r) = unqA (bs ++ [c]) r := by
 unfold unqA
 rw [unq_e]
 simp only [h,Option.bind_some,Option.map_map]
 congr 1
 funext x
 simp
def unqV : Option (List UInt8 × List UInt8) → Value
 | none => .tuple #[.string ⟨#[]⟩,.string ⟨#[]⟩,.bool false]
 | some x => .tuple #[.string (ba x.1),.string (ba x.2),.bool true]
end Rd
theorem escaped_calls (s : List UInt8) (k : Nat) (w : World) :
  Calls Tryz.prog 220 #[.string (ba s),.int .i64 k] w fun e w' => e = .returned (match Rd.escAt s k with | some c => .tuple #[.int .u8 (c.toNat : Int),.bool true] | none => .tuple #[.int .u8 0,.bool false]) ∧ w' = w := by
 obtain ⟨bs,eb,T⟩ := txt s
 rw [eb]
 clear eb
 have hz : bs.size = s.length := T.size
 have z0 : (0 : Int) ≤ (k : Int) := by omega
 by_cases hlt : k < s.length
 ·have hlt2 : k < bs.size := by omega
  have z1 : (k : Int) < (bs.size : Int) := by omega
  have hg := T.get k hlt hlt2
  have ha : Rd.escAt s k = Rd.esc s[k] := by
   unfold Rd.escAt
   rw [List.getElem?_eq_getElem hlt]
   rfl
  rw [ha]
  have HC : Hid (bs[k] = s[k]) := hid1 hg
  generalize s[k] = c at *
  have hall : c = 34 ∨ c = 92 ∨ c = 110 ∨ (((c.toNat : Nat) : Int) == 34) = false ∧ (((c.toNat : Nat) : Int) == 92) = false ∧ (((c.toNat : Nat) : Int) == 110) = false ∧ Rd.esc c = none := by
   by_cases h1 : c = 34
   ·exact .inl h1
   ·by_cases h2 : c = 92
    ·exact .inr (.inl h2)
    ·by_cases h3 : c = 110
     ·exact .inr (.inr (.inl h3))
     ·refine .inr (.inr (.inr ⟨?_,?_,?_,?_⟩))
      ·exact beq_eq_false_iff_ne.2 fun e => h1 (UInt8.toNat_inj.1 (by have : (34 : UInt8).toNat = 34 := rfl;omega))
      ·exact beq_eq_false_iff_ne.2 fun e => h2 (UInt8.toNat_inj.1 (by have : (92 : UInt8).toNat = 92 := rfl;omega))
      ·exact beq_eq_false_iff_ne.2 fun e => h3 (UInt8.toNat_inj.1 (by have : (110 : UInt8).toNat = 110 := rfl;omega))
      ·simp [Rd.esc,h1,h2,h3]
  clear ha T hg
  rcases hall with rfl | rfl | rfl | ⟨n1,n2,n3,hn⟩
  ·have e1 : (((bs[k].toNat : Nat) : Int)) = 34 := by rw [HC.out];rfl
   rw [show Rd.esc 34 = some 34 from by decide]
   go_enter Tryz.func220,Tryz.ntmps220
   go_wp2
   go_ret2
   exact ⟨rfl,rfl⟩
  ·have e1 : (((bs[k].toNat : Nat) : Int)) = 92 := by rw [HC.out];rfl
   rw [show Rd.esc 92 = some 92 from by decide]
   go_enter Tryz.func220,Tryz.ntmps220
   go_wp2
   go_ret2
   exact ⟨rfl,rfl⟩
  ·have e1 : (((bs[k].toNat : Nat) : Int)) = 110 := by rw [HC.out];rfl
   rw [show Rd.esc 110 = some 10 from by decide]
   go_enter Tryz.func220,Tryz.ntmps220
   go_wp2
   go_ret2
   exact ⟨rfl,rfl⟩
  ·rw [← HC.out] at n1 n2 n3
   rw [hn]
   clear hn
   go_enter Tryz.func220,Tryz.ntmps220
   go_wp2
   go_ret2
   exact ⟨rfl,rfl⟩
 ·have z1 : (bs.size : Int) ≤ (k : Int) := by omega
  have ha : Rd.escAt s k = none := by
   unfold Rd.escAt
   rw [List.getElem?_eq_none (by omega)]
   rfl
  rw [ha]
  clear ha T
  go_enter Tryz.func220,Tryz.ntmps220
  go_wp2
  go_ret2
  exact ⟨rfl,rfl⟩
end Go.Proofs.YtdljhggillgpfaaGreatDoor
namespace Go.Proofs.YtdljhggillgpfaaGreatDoor
open Go.RowKit Go.Shelf Go.Lib
theorem byte_ne {c d : UInt8} {n : Int} (hn : (d.toNat : Int) = n) (h : c ≠ d) : (((c.toNat : Nat) : Int) == n) = false :=
 beq_eq_false_iff_ne.2 fun e => h (UInt8.toNat_inj.1 (by omega))
theorem unquoted_calls (s : List UInt8) (hs : s.length ≤ 100000) (w : World) :
  Calls Tryz.prog 183 #[.string (ba s)] w fun e w' => e = .returned (Rd.unqV (Rd.unq s)) ∧ Below w.heap.size w w' := by
 obtain ⟨an,ha⟩ : ∃ an,Rd.unqV (Rd.unq s) = an := ⟨_,rfl⟩
 rw [ha]
 have HN : Hid (Rd.unqV (Rd.unq s) = an) := hid1 ha
 clear ha
 have HE := hid1 fun (k : Nat) (W : World) => escaped_calls s k W
 obtain ⟨bs,eb,T⟩ := txt s
 rw [eb] at HE ⊢
 clear eb
 have hz : bs.size = s.length := T.size
 have g0 : Below w.heap.size w (w.alloc (.cells #[.pointer none,.slice none 0 0] 187)) := (Below.refl _ w).alloc (Nat.le_refl _) _
 have b0 : Lib.IsBuilderF 187 5 w.heap.size w.heap.size (Lib.byteCells []) (w.alloc (.cells #[.pointer none,.slice none 0 0] 187)) := Lib.IsBuilderF.of (Lib.fresh_isBuilder 187 5 w)
 have HS := hid1 fun (V : World) (bs : List UInt8) (hV : w.heap.size ≤ V.heap.size) (hb : Lib.IsBuilderF 187 5 w.heap.size w.heap.size (Lib.byteCells bs) V) => Any.Builder_String_any_k Tryz.lays169 Tryz.Builder_Extra_169 w.heap.size w.heap.size bs V hb hV
 have HC : Hid (∀ (bs : List UInt8) (c : UInt8) V,bs.length ≤ 10000000 → w.heap.size ≤ V.heap.size → Lib.IsBuilderF 187 5 w.heap.size w.heap.size (Lib.byteCells bs) V → Calls Tryz.prog 221 #[.pointer (some ⟨w.heap.size,0,none⟩),.int .u8 (c.toNat : Int)] V fun e w' =>
   e = .returned .nilIface ∧ Lib.IsBuilderF 187 5 w.heap.size w.heap.size (Lib.byteCells (bs ++ [c])) w' ∧ Below w.heap.size V w') := hid1 fun bs c V hl hV hb => by
  refine (Any.Builder_WriteByte_k Tryz.lays167 Tryz.Builder_Extra_167 w.heap.size w.heap.size (Lib.byteCells bs) (c.toNat : Int) V hb (by rw [Lib.byteCells_length];omega) hV).mono ?_
  rintro e w' ⟨rfl,h1,h2,h3⟩
  refine ⟨rfl,.inr ?_,h2⟩
  rw [Lib.byteCells_append]
  exact h1
 have HB0 := hid1 b0
 have zs : (bs.size : Int) ≤ 100000 := by omega
 clear b0
 generalize hW0 : w.alloc (.cells #[.pointer none,.slice none 0 0] 187) = w1 at *
 go_enter Tryz.func183,Tryz.ntmps183
 go_wp2
 go_loopw [6] (fun iv wr => ∃ (k : Nat) (b : List UInt8),k ≤ s.length ∧ iv = .int .i64 k ∧ b.length ≤ k ∧ Hid (Rd.unq s = Rd.unqA b (s.drop k)) ∧ Lib.IsBuilderF 187 5 w.heap.size w.heap.size (Lib.byteCells b) wr ∧ Below w.heap.size w wr) (fun iv _ => s.length - (intOf iv).toNat)
 case atStart => exact ⟨0,[],Nat.zero_le _,rfl,by simp,hid1 (by unfold Rd.unqA;simp),HB0.out,g0⟩
 case round =>
  clear HB0 g0
  obtain ⟨k,b,hk,rfl,hbl,HU,hb,hB⟩ := hrel
  have HB := hid1 hb
  clear hb
  have k0 : (0 : Int) ≤ (k : Int) := by omega
  have zB := hB.size
  by_cases hlt : k < s.length
  ·have hlt2 : k < bs.size := by omega
   have k1 : (k : Int) < (bs.size : Int) := by omega
   have hd : s.drop k = s[k] :: s.drop (k + 1) := (List.drop_eq_getElem_cons hlt)
   have HG : Hid (bs[k] = s[k]) := hid1 (T.get k hlt hlt2)
   have HX : Hid (∀ j,bs.extract (j + 1) s.length = ba (s.drop (j + 1))) := hid1 fun j => by rw [T.extract,List.take_length]
   rw [hd] at HU
   by_cases h1 : s[k] = 34
   ·have e1 : (((bs[k].toNat : Nat) : Int)) = 34 := by rw [HG.out,h1];rfl
    have HA : Hid (an = .tuple #[.string (ba b),.string (ba (s.drop (k + 1))),.bool true]) := hid1 (by
     rw [← HN.out,HU.out,h1]
     unfold Rd.unqA
     rw [Rd.unq_q]
     simp [Rd.unqV])
    have HP := hid1 fun (V : World) (g : Below wr.heap.size wr V) => HS.out V b (by have := g.size;omega) (isBuilder_belowR HB.out g)
    have c4 : (0 : Int) ≤ (k : Int) + 1 := by omega
    have c5 : (k : Int) + 1 ≤ (bs.size : Int) := by omega
    have c6 : IntKind.i64.wrap ((k : Int) + 1) = (k : Int) + 1 := by simp [IntKind.wrap,IntKind.bits,IntKind.signed];omega
    clear HS HE HC HB HG HN HU hd h1 T
    go_wp2
    first | go_region_with (go_at_call 120;refine (HP.out _ (by exact (Below.refl _ wr).drew)).mono ?_;rintro e w5 ⟨rfl,-,g5,-⟩) | fail
    all_goals
     go_wp2
     go_ret3
     refine ⟨?_,hB.trans ((Below.refl _ wr).drew.mono zB |>.trans g5)⟩
     rw [HA.out,← HX.out k]
     rfl
   ·have n1 := byte_ne (c := s[k]) (d := 34) (n := 34) rfl h1
    rw [← HG.out] at n1
    by_cases h2 : s[k] = 92
    ·have e1 : (((bs[k].toNat : Nat) : Int)) = 92 := by rw [HG.out,h2];rfl
     have HE1 := hid1 (HE.out (k + 1) wr)
     rw [show ((k + 1 : Nat) : Int) = (k : Int) + 1 by omega] at HE1
     cases he : Rd.escAt s (k + 1) with
     | none =>
      have HA : Hid (an = .tuple #[.string ⟨#[]⟩,.string ⟨#[]⟩,.bool false]) := hid1 (by
       rw [← HN.out,HU.out,h2]
       unfold Rd.unqA
       rw [Rd.unq_e]
       unfold Rd.escAt at he
       cases hq : s.drop (k + 1) with
       | nil => rfl
       | cons d r =>
        have : s[k + 1]? = some d := by rw [← List.head?_drop,hq];rfl
        rw [this] at he
        simp only [Option.bind_some] at he
        simp [he,Rd.unqV])
      rw [he] at HE1
      clear HS HE HC HB HG HN HU hd h1 h2 T he
      go_wp2_with fail
      refine HE1.out.mono ?_
      rintro e w5 ⟨rfl,rfl⟩
      clear HE1
      go_wp2
      go_ret3
      exact ⟨by rw [HA.out];rfl,hB⟩
     | some c =>
      have hk2 : k + 1 < s.length := by
       refine Classical.byContradiction fun hn => ?_
       unfold Rd.escAt at he
       rw [List.getElem?_eq_none (by omega)] at he
       cases he
      have hd2 : s.drop (k + 1) = s[k + 1] :: s.drop (k + 2) := List.drop_eq_getElem_cons hk2
      have hes : Rd.esc s[k + 1] = some c := by
       unfold Rd.escAt at he
       rw [List.getElem?_eq_getElem hk2] at he
       exact he
      have HV : Hid (Rd.unq s = Rd.unqA (b ++ [c]) (s.drop (k + 2))) := hid1 (by rw [HU.out,h2,hd2,Rd.unqA_e _ hes])
      have HW := hid1 (HC.out b c wr (by omega) zB HB.out)
      rw [he] at HE1
      clear HS HE HC HB HG HU hd h1 h2 T he hd2 hes
      go_wp2_with fail
      refine HE1.out.mono ?_
      rintro e w5 ⟨rfl,rfl⟩
      clear HE1
      go_wp2_with fail
      refine HW.out.mono ?_
      rintro e w5 ⟨rfl,b5,g5⟩
      have HB5 := hid1 b5
      clear HW b5
      go_wp2
      exact ⟨⟨k + 2,b ++ [c],by omega,by go_num,by simp;omega,HV,HB5.out,hB.trans g5⟩,by simp [intOf];omega⟩
    ·have n2 := byte_ne (c := s[k]) (d := 92) (n := 92) rfl h2
     rw [← HG.out] at n2
     have HV : Hid (Rd.unq s = Rd.unqA (b ++ [s[k]]) (s.drop (k + 1))) := hid1 (by rw [HU.out,Rd.unqA_o _ h1 h2])
     have HW := hid1 (HC.out b s[k] wr (by omega) zB HB.out)
     rw [← HG.out] at HW
     clear HS HE HC HB HU hd h1 h2 T
     go_wp2_with fail
     refine HW.out.mono ?_
     rintro e w5 ⟨rfl,b5,g5⟩
     have HB5 := hid1 b5
     clear HW b5
     go_wp2
     refine ⟨⟨k + 1,b ++ [s[k]],by omega,by go_num,by simp;omega,HV,?_,hB.trans g5⟩,by simp [intOf];omega⟩
     have := HB5.out
     rwa [HG.out] at this
  ·have k1 : (bs.size : Int) ≤ (k : Int) := by omega
   have HA : Hid (an = .tuple #[.string ⟨#[]⟩,.string ⟨#[]⟩,.bool false]) := hid1 (by
    rw [← HN.out,HU.out,List.drop_of_length_le (by omega)]
    rfl)
   clear HS HE HC HB HN HU T
   go_wp2
   go_ret3
   exact ⟨by rw [HA.out];rfl,hB⟩
end Go.Proofs.YtdljhggillgpfaaGreatDoor
