import Derived.Test.YthchjnopgagilaaGreatDoorPA12
import Derived.Laws.AppendOwnNone
import Derived.Deep.AppendLies
namespace Go.Proofs.YthchjnopgagilaaGreatDoor
open Go.RowKit Go.Shelf Go.Lib
namespace Ru
def twiceAt (r : Ru) (i : Nat) : Bool := decide (r.ins[i]? = some r.out) || decide (∃ x ∈ r.ins.take i,r.ins[i]? = some x)
def twice (r : Ru) : Bool := (List.range r.ins.length).any r.twiceAt
def err (r : Ru) : Nat :=
 if pathB r.out = false then 4
 else if Af.actE r.kind r.word r.ins.length ≠ 0 then Af.actE r.kind r.word r.ins.length
 else if r.ins.all pathB = false then 4
 else if r.twice = true then 7 else 0
def errAt (l : List Ru) (i : Nat) : Nat :=
 match l[i]? with
 | some r => if r.err ≠ 0 then r.err else if r.out ∈ (l.take i).map Ru.out then 7 else 0
 | none => 0
def fault (l : List Ru) : Nat × Int :=
 if 40 < l.length then (2,-1) else match first (errAt l) l.length with | some k => (errAt l k,(k : Int)) | none => (0,-1)
theorem fault_many {l : List Ru} (h : 40 < l.length) : fault l = (2,-1) := by unfold fault;rw [if_pos h]
theorem fault_none {l : List Ru} (h0 : l.length ≤ 40) (h : ∀ j,j < l.length → errAt l j = 0) : fault l = (0,-1) := by
 unfold fault
 rw [if_neg (by omega),first_none h]
theorem fault_some {l : List Ru} {m : Nat} (h0 : l.length ≤ 40) (hm : m < l.length) (hc : errAt l m ≠ 0) (h : ∀ j,j < m → errAt l j = 0) : fault l = (errAt l m,(m : Int)) := by
 unfold fault
 rw [if_neg (by omega),first_some hm hc h]
theorem twice_iff {r : Ru} : r.twice = true ↔ ∃ i,i < r.ins.length ∧ r.twiceAt i = true := by
 unfold twice
 simp [List.any_eq_true]
theorem twiceAt_eq {r : Ru} {i : Nat} (h : i < r.ins.length) : r.twiceAt i = (decide (r.ins[i] = r.out) || decide (r.ins[i] ∈ r.ins.take i)) := by
 unfold twiceAt
 rw [List.getElem?_eq_getElem h]
 congr 1
 ·simp
 ·rw [decide_eq_decide]
  constructor
  ·rintro ⟨x,hx,e⟩
   rw [Option.some.inj e]
   exact hx
  ·exact fun hx => ⟨_,hx,rfl⟩
theorem errAt_eq {l : List Ru} {i : Nat} (h : i < l.length) : errAt l i = if l[i].err ≠ 0 then l[i].err else if l[i].out ∈ (l.take i).map Ru.out then 7 else 0 := by
 unfold errAt
 rw [List.getElem?_eq_getElem h]
theorem err_le (r : Ru) : r.err = 0 ∨ ∃ k,k < 12 ∧ r.err = k + 1 := by
 unfold err
 split
 ·exact .inr ⟨3,by omega,rfl⟩
 ·split
  ·exact actE_le _ _ _
  ·split
   ·exact .inr ⟨3,by omega,rfl⟩
   ·split
    ·exact .inr ⟨6,by omega,rfl⟩
    ·exact .inl rfl
theorem errAt_le (l : List Ru) (i : Nat) : errAt l i = 0 ∨ ∃ k,k < 12 ∧ errAt l i = k + 1 := by
 unfold errAt
 split
 ·split
  ·exact err_le _
  ·split
   ·exact .inr ⟨6,by omega,rfl⟩
   ·exact .inl rfl
 ·exact .inl rfl
end Ru
def ErrV (w : World) (es : Nat → Addr) (v : Value) (f : Nat × Int) : Prop :=
 (f.2 = -1 ∧ v = erOf es f.1 ∧ f.1 ≤ 12) ∨ (∃ pb m,v = .iface 200 (.pointer (some ⟨pb,0,none⟩)) ∧ m < 12 ∧ f.1 = m + 1 ∧ w.cell? ⟨pb,0,none⟩ = some (.int .i64 f.2) ∧ w.cell? ⟨pb,1,none⟩ = some (erOf es f.1))
theorem ErrV.below {w w' : World} {es : Nat → Addr} {v : Value} {f : Nat × Int} (h : ErrV w es v f) (hb : Below w.heap.size w w') : ErrV w' es v f := by
 rcases h with h | ⟨pb,m,e,hm,h0,h1,h2⟩
 ·exact .inl h
 ·exact .inr ⟨pb,m,e,hm,h0,cell_below' h1 hb,cell_below' h2 hb⟩
theorem ErrV.nil {w : World} {es : Nat → Addr} : ErrV w es .nilIface (0,-1) := .inl ⟨rfl,rfl,by simp⟩
theorem ErrV.bare {w : World} {es : Nat → Addr} {c : Nat} (h : c ≤ 12) : ErrV w es (erOf es c) (c,-1) := .inl ⟨rfl,rfl,h⟩
structure ES (w : World) (es : Nat → Addr) : Prop where
 c1 : w.cell? ⟨4,0,none⟩ = some (.iface 430 (.pointer (some (es 1))))
 c3 : w.cell? ⟨7,0,none⟩ = some (.iface 430 (.pointer (some (es 3))))
 c6 : w.cell? ⟨9,0,none⟩ = some (.iface 430 (.pointer (some (es 6))))
 t : w.cell? ⟨12,0,none⟩ = some (.iface 364 (.agg #[.pointer (some ⟨21,25,none⟩)]))
theorem ES.below {w w' : World} {es : Nat → Addr} (h : ES w es) (hb : Below w.heap.size w w') : ES w' es :=
 ⟨cell_below' h.c1 hb,cell_below' h.c3 hb,cell_below' h.c6 hb,cell_below' h.t hb⟩
theorem E12.es {w : World} {es : Nat → Addr} (h : E12 w es) : ES w es := ⟨h.c1,h.c3,h.c6,h.t⟩
end Go.Proofs.YthchjnopgagilaaGreatDoor
namespace Go.Proofs.YthchjnopgagilaaGreatDoor
open Go.RowKit Go.Shelf Go.Lib
theorem Tryz.infoRule : (Tryz.prog.info? 96).map (fun i => (i.zero,i.size,i.bytes)) = some (some (.agg #[.string ⟨#[]⟩,.string ⟨#[]⟩,.string ⟨#[]⟩,.slice none 0 0]),4,72) := by kernel_rfl
theorem row_low4 {w : World} {base : Nat} {e : TypeId} {size : Nat} {v : Value} {n : Nat} {xs : List Value} (h : w.ownsRow base e size v n xs) : ∀ k,v.ownBlock = some k → base ≤ k := by
 intro k hk
 rcases h.2 with ⟨rfl,_⟩ | ⟨g,cap,cur,rfl,hb,_⟩
 ·cases hk
 ·cases hk;exact hb
def ruCells (l : List (Ru × Value)) : List Value := l.flatMap fun x => [.string (ba x.1.out),.string (ba x.1.kind),.string (ba x.1.word),x.2]
theorem ruCells_snoc (l : List (Ru × Value)) (x : Ru × Value) : ruCells (l ++ [x]) = ruCells l ++ [.string (ba x.1.out),.string (ba x.1.kind),.string (ba x.1.word),x.2] := by simp [ruCells]
theorem ruCells_at : ∀ (l : List (Ru × Value)) (j : Nat) (h : j < l.length),(ruCells l)[j * 4]? = some (.string (ba l[j].1.out)) ∧ (ruCells l)[j * 4 + 1]? = some (.string (ba l[j].1.kind)) ∧ (ruCells l)[j * 4 + 2]? = some (.string (ba l[j].1.word)) ∧ (ruCells l)[j * 4 + 3]? = some l[j].2
 | x :: r,0,_ => by simp [ruCells]
 | x :: r,j + 1,h => by
  have ih := ruCells_at r j (by simpa using h)
  have e : ruCells (x :: r) = .string (ba x.1.out) :: .string (ba x.1.kind) :: .string (ba x.1.word) :: x.2 :: ruCells r := by simp [ruCells]
  rw [e,show (j + 1) * 4 = j * 4 + 1 + 1 + 1 + 1 by omega]
  simpa [Nat.add_assoc] using ih
theorem RRow.of_owns {w : World} {base : Nat} {v : Value} {l : List (Ru × Value)} {n : Nat} (h : w.ownsRow base 96 4 v n (ruCells l)) (hn : n = l.length) (hx : ∀ x ∈ l,XRow w x.2 x.1.ins) : RRow w v (l.map Prod.fst) := by
 subst hn
 rcases h.2 with ⟨rfl,hn⟩ | ⟨g,cap,cur,rfl,_,hb,h1,_,_,h4⟩
 ·obtain rfl : l = [] := by simpa using hn
  exact RRow.nil w
 ·refine ⟨some ⟨g,0,none⟩,cap,by simp,by simpa using h1,fun h => (by cases h),fun _ => ⟨g,0,rfl,(Array.getElem?_eq_some_iff.1 hb).1,fun j hj => ?_⟩⟩
  have hj' : j < l.length := by simpa using hj
  have key : ∀ i x,i < l.length * 4 → (ruCells l)[i]? = some x → w.cell? ⟨g,i,none⟩ = some x := fun i x hi hx => by
   have := congrArg (fun y => y[i]?) h4
   simp only [List.getElem?_take,hi,if_true,hx,Array.getElem?_toList] at this
   exact cell_of_row hb this
  obtain ⟨a0,a1,a2,a3⟩ := ruCells_at l j hj'
  rw [Nat.zero_add,List.getElem_map]
  exact ⟨key _ _ (by omega) a0,key _ _ (by omega) a1,key _ _ (by omega) a2,_,key _ _ (by omega) a3,hx _ (List.getElem_mem hj')⟩
theorem four_new (W : World) (x0 x1 x2 x3 : Value) (t : TypeId) (n : Nat) (hn : W.heap.size = n) (j : Nat) (u : Value) (h : [x0,x1,x2,x3][j]? = some u) : (W.alloc (.cells #[x0,x1,x2,x3] t)).cell? ((⟨n,0,none⟩ : Addr).add j) = some u := by
 subst hn
 rw [add_at2,Nat.zero_add,World.cell?_alloc_at _ _ _ _ rfl]
 simpa using h
end Go.Proofs.YthchjnopgagilaaGreatDoor
