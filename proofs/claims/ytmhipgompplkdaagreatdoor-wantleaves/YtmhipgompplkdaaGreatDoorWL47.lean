import Derived.Test.YtmhipgompplkdaaGreatDoorWL46
import Derived.Test.YtmhipgompplkdaaGreatDoorWL28
import Derived.Test.YtmhipgompplkdaaGreatDoorWL20
import Derived.Test.YtmhipgompplkdaaGreatDoorWL42
import Derived.Test.YtmhipgompplkdaaGreatDoorWL43
import Derived.Test.YtmhipgompplkdaaGreatDoorWL37
import Derived.Test.YtmhipgompplkdaaGreatDoorWL22
import Derived.Test.YtmhipgompplkdaaGreatDoorWL24
import Derived.Deep.RegionHeld3
import Derived.Test.YtmhipgompplkdaaGreatDoorWL41
import Derived.Test.YtmhipgompplkdaaGreatDoorWL32
import Derived.Test.YtmhipgompplkdaaGreatDoorWL33
import Derived.Test.YtmhipgompplkdaaGreatDoorWL30
import Derived.Test.YtmhipgompplkdaaGreatDoorWL07
import Derived.Shelf.Strings.BuilderK
import Derived.Lib.SmallJoins
import Derived.Lib.ItoaLen
import Derived.Sort.Grow
import Derived.Test.YtmhipgompplkdaaGreatDoorWL09
namespace Go.Proofs.YtmhipgompplkdaaGreatDoor
open Go.RowKit Go.Shelf Go.Lib
theorem mk_get {l : List Ru} {s : List UInt8} (h : (Ru.mkr l s).isSome = true) : ∃ z ∈ l, z.out = s := by
  cases hm : Ru.mkr l s with
  | none => rw [hm] at h; cases h
  | some k =>
    obtain ⟨hk, h1, _⟩ := Ru.mkr_some hm
    exact ⟨_, List.getElem_mem hk, h1⟩
def NewRow (B : Nat) (u : Value) : Prop := ∀ p n c, u = .slice (some p) n c → B ≤ p.block
set_option maxRecDepth 100000 in
set_option maxHeartbeats 16000000 in
theorem gLeaves_new {w : World} {es : Nat → Addr} (hW : SheetW w es) (v : Value) (l : List Ru) (hrow : RRow w v l) (hn : l.length ≤ 1000) (hS : ∀ x ∈ l, x.Small) :
    Calls Tryz.prog 44 #[v] w fun e w' => ∃ u ev, e = .returned (.tuple #[u, ev]) ∧ Below w.heap.size w w' ∧ LeavesTells es l w' u ev ∧ NewRow w.heap.size u := by
  have HL := hid1 (grlook_calls hW v l hrow hn hS)
  obtain ⟨pr, cap, rfl, hcap, hnn, hin⟩ := hrow
  have HI := hid1 hin
  have H12 : Hid (∀ i (hi : i < l.length), l[i].ins.length ≤ 12) := hid1 fun i hi => (hS _ (List.getElem_mem hi)).many
  clear hin hnn hS hW
  obtain ⟨i0, hi, hz0, hz1, hz2⟩ := info_parts Tryz.infoStr
  have zn : (l.length : Int) ≤ 1000 := by omega
  go_enter Tryz.func44, Tryz.ntmps44
  go_wp2_with fail
  refine HL.out.mono ?_
  rintro e w1 ⟨u, ev, rfl, g1, hT⟩
  rcases hT with ⟨hf, hE, rfl, t, x, rfl⟩ | ⟨hf, rfl, p, bm, G, vals, rfl, hSh⟩
  · have HE := hid1 hE
    have HZ := hid1 hf
    clear HL hE hf
    go_wp2
    go_ret2
    exact ⟨_, _, rfl, g1, .inl ⟨HZ.out, HE.out, _, _, rfl⟩, fun p n c e => by cases e⟩
  · have HZ := hid1 hf
    have HSh := hid1 hSh
    have HF := hid1 (LeafU.first l)
    have hc0 := hSh.c0
    clear HL hf hSh
    go_wp2
    go_loopw [6, 23] (fun ov iv wr => ∃ (i : Nat) (r : List (List UInt8)), i ≤ l.length ∧ iv = .int .i64 i ∧ wr.ownsRow w1.heap.size 9 1 ov r.length (r.map sv) ∧ LeafU l i 0 r ∧ Below w1.heap.size w1 wr) (fun _ iv _ => l.length - (intOf iv).toNat)
    case atStart => exact ⟨0, [], Nat.zero_le _, rfl, World.ownsRow_nil _ _ _ _, HF.out, Below.refl _ _⟩
    case round =>
      obtain ⟨i, r, hil, rfl, hO, hU, B⟩ := hrel
      have HO := hid1 hO
      have HU := hid1 hU
      clear hO hU HF
      have c0 : (0 : Int) ≤ (i : Int) := by omega
      by_cases hlt : i < l.length
      · have c1 : (i : Int) < (l.length : Int) := by omega
        obtain ⟨g', o, rfl, hg, hcur⟩ := HI.out (by intro e; rw [e] at hlt; simp at hlt)
        obtain ⟨b0, b1, b2, ui, b3, bx⟩ := hcur i hlt
        have gB := below_then g1 B
        have d0 := cell_below' b0 gB
        have d1 := cell_below' b1 gB
        have d2 := cell_below' b2 gB
        have d3 := cell_below' b3 gB
        have h12 := H12.out i hlt
        have z12 : (l[i].ins.length : Int) ≤ 12 := by omega
        obtain ⟨p3, cap3, rfl, hcap3, -, hin3⟩ := bx
        have HI3 := hid1 hin3
        have hst : ∀ (a : Addr) (m : Mode) (W : World), Sem.run Tryz.prog (store a (.slice p3 l[i].ins.length cap3) m) W = stored Tryz.prog W a (.slice p3 l[i].ins.length cap3) m := fun a m W => run_store _ W a _ m rfl
        clear hcur hin3 b0 b1 b2 b3
        generalize wr = w2 at *
        have B3 := B.alloc B.size (.cells #[.string (ba l[i].out), .string (ba l[i].kind), .string (ba l[i].word), .slice p3 l[i].ins.length cap3] 90)
        have HO3 := hid1 (HO.out.alloc (.cells #[.string (ba l[i].out), .string (ba l[i].kind), .string (ba l[i].word), .slice p3 l[i].ins.length cap3] 90))
        go_wp2
        go_loopw [6, 30] (fun ov kv wx => ∃ (k : Nat) (r : List (List UInt8)), k ≤ l[i].ins.length ∧ kv = .int .i64 k ∧ wx.ownsRow w1.heap.size 9 1 ov r.length (r.map sv) ∧ LeafU l i k r ∧ Below w1.heap.size w1 wx) (fun _ kv _ => l[i].ins.length - (intOf kv).toNat)
        case atStart => exact ⟨0, r, Nat.zero_le _, rfl, HO3.out, HU.out, B3⟩
        case round =>
          clear HO HU HO3 B3 B gB d0 d1 d2 d3 r hst
          obtain ⟨k, r, hkl, rfl, hO, hU, B⟩ := hrel
          have HO := hid1 hO
          have HU := hid1 hU
          clear hO hU
          have k0 : (0 : Int) ≤ (k : Int) := by omega
          by_cases hklt : k < l[i].ins.length
          · have k1 : (k : Int) < (l[i].ins.length : Int) := by omega
            obtain ⟨g3, o3, rfl, hg3, hc3⟩ := HI3.out (by intro e; rw [e] at hklt; simp at hklt)
            have gB := below_then g1 B
            have e3 := (gB.cell (p := ⟨g3, o3 + k, none⟩) hg3).trans (hc3 k hklt)
            have HMade := hid1 (HU.out.made hlt hklt)
            have HMore := hid1 (HU.out.more hlt hklt)
            have hfew := HU.out.few
            have hcm := cell_below' hc0 B
            have hlk := look_mk (HSh.out.below B).map l[i].ins[k]
            generalize hs : l[i].ins[k] = s at *
            cases hm : Ru.mkr l s with
            | some j =>
              have HQ := hid1 (HMade.out (mk_get (by rw [hm]; rfl)))
              rw [hm] at hlk
              simp only [Option.getD_some, Option.isSome_some] at hlk
              clear HMade HMore hm hfew hc3 HI3
              go_wp2
              exact ⟨⟨k + 1, r, by omega, by go_num, HO.out, HQ.out, B⟩, by simp [intOf]; omega⟩
            | none =>
              have HQ := hid1 (HMore.out (Ru.mkr_none hm))
              rw [hm] at hlk
              simp only [Option.getD_none, Option.isSome_none] at hlk
              have hrl : r.length ≤ 12012 := by
                have : i * 12 ≤ 1000 * 12 := Nat.mul_le_mul (by omega) (Nat.le_refl _)
                omega
              have hrow := HO.out
              have hml : r.length + 1 ≤ maxLen := by unfold maxLen; omega
              have hbz := B.size
              clear HMade HMore hm hfew hc3 HI3
              go_wp2_with (at_builtin; refine wpList_append_own _ rfl _ _ 45 rfl w1.heap.size 9 i0 (.string ⟨#[]⟩) 1 16 Tryz.underlying45 hi hz0 hz1 hz2 rfl (by decide) _ _ _ rfl (hrow.alloc _) ⟨wr.heap.size, 0, none⟩ 1 1 [.string (ba s)] rfl rfl (cell_one_new _ _ _) (by simp [Value.oneCell']) hml (by omega) (by simp; omega) ?_; intro v' w4 hown' hgrow _)
              exact ⟨⟨k + 1, r ++ [s], by omega, by go_num, by simpa using hown', HQ.out, below_appended B hbz hrow hgrow⟩, by simp [intOf]; omega⟩
          · have k1 : (l[i].ins.length : Int) ≤ (k : Int) := by omega
            obtain rfl : k = l[i].ins.length := by omega
            have HQ := hid1 (HU.out.nextRule hlt h12)
            clear HU HI3
            go_wp2
            exact ⟨⟨i + 1, r, by omega, by go_num, HO.out, HQ.out, B⟩, by simp [intOf]; omega⟩
      · have c1 : (l.length : Int) ≤ (i : Int) := by omega
        obtain rfl : i = l.length := by omega
        have HQ := hid1 HU.out.done
        have hfew := HU.out.few
        have hrl : r.length ≤ 12000 := by
          have : l.length * 12 ≤ 1000 * 12 := Nat.mul_le_mul (by omega) (Nat.le_refl _)
          omega
        have HS := hid1 (sort_calls (HRow.of_owns HO.out) B.size (by omega))
        clear HU hfew HI
        go_wp2_with fail
        refine HS.out.mono ?_
        rintro e w3 ⟨rfl, h3, g3⟩
        have G3 := B.trans g3
        have HC := hid1 (compact_calls h3 G3.size (by rw [Af.srt_len]; omega))
        clear HS h3 g3
        go_wp2_with fail
        refine HC.out.mono ?_
        rintro e w4 ⟨v4, rfl, h4, g4⟩
        have HH := hid1 h4.ir
        have HNw : Hid (NewRow w.heap.size v4) := hid1 (by
          have hz := g1.size
          rcases h4 with ⟨_, rfl⟩ | ⟨g, cap, rfl, h5, _⟩
          · exact fun p n c e => by cases e
          · exact fun p n c e => by cases e; exact Nat.le_trans hz h5)
        have G4 := below_then g1 (G3.trans g4)
        clear HC h4 g4
        go_wp2
        go_ret2
        exact ⟨_, _, rfl, G4, .inr ⟨HZ.out, rfl, _, HQ.out, HH.out⟩, HNw.out⟩
end Go.Proofs.YtmhipgompplkdaaGreatDoor
namespace Go.Proofs.YtmhipgompplkdaaGreatDoor
open Go.RowKit Go.Shelf Go.Lib Go.Maps
theorem want_err {fs : Tf.Fs} {l : List Ru} {x : List UInt8} (h : (Bf.want Af.actO fs l x).2 ≠ 0) : (Bf.want Af.actO fs l x).1 = [] := by
  unfold Bf.want Bf.wantF at h ⊢
  split
  · rename_i i hm
    simp only [hm] at h
    unfold Bf.wrule at h ⊢
    split
    · rename_i h0
      rw [if_pos h0] at h
      unfold Af.actO at h ⊢
      split
      · rename_i h1
        rw [if_pos h1] at h
        split
        · rename_i k hk
          simp only [hk] at h
          split
          · rfl
          · rename_i h2
            rw [if_neg h2] at h
            exact absurd rfl h
        · rfl
      · rfl
    · rfl
  · rename_i hm
    simp only [hm] at h
    split
    · rename_i b hb
      simp only [hb] at h
      exact absurd rfl h
    · rfl
theorem of_same {es : Nat → Addr} {fs fs' : Tf.Fs} {l : List Ru} {out : List UInt8} {f : Nat → Bool} {ns : List Nat} (h : Ru.Nums l out f ns) (hex : ∃ x ∈ l, x.out = out) (hfs : ∀ x, Ru.Leaf (Ru.part l ns) x → Tf.get fs x = Tf.get fs' x) {w w' : World} {s1 s2 : List UInt8} {ev1 ev2 : Value} (h1 : OfTells es fs l out w s1 ev1) (h2 : OfTells es fs' (Ru.part l ns) out w' s2 ev2) :
    s1 = s2 ∧ ev1 = ev2 ∧ ((∃ t u, ev1 = .iface t u) ∧ s1 = [] ∨ ev1 = .nilIface) := by
  have hf2 : (Ru.fault (Ru.part l ns)).1 = 0 := by rw [h.fault0]
  have hex2 : ∃ x ∈ Ru.part l ns, x.out = out := by
    obtain ⟨r, hr, er⟩ := hex
    obtain ⟨k, hk, ek⟩ := List.getElem_of_mem hr
    obtain ⟨j, hj, e⟩ := h.find hk (h.need.start k (by unfold Ru.base; rw [List.getElem?_eq_getElem hk, ek]; simp [er]))
    refine ⟨_, List.getElem_mem (show j < (Ru.part l ns).length by rw [Ru.part_len]; exact hj), ?_⟩
    rw [Ru.part_at l ns hj (h.at hj).1]
    subst e
    rw [ek, er]
  rcases h1 with ⟨a, _⟩ | ⟨_, a, _⟩ | ⟨_, _, a3, rfl, rfl⟩ | ⟨_, _, a3, rfl, rfl⟩
  · exact absurd h.fine a
  · obtain ⟨x, hx, e⟩ := hex
    exact absurd e (a x hx)
  · rcases h2 with ⟨b, _⟩ | ⟨_, b, _⟩ | ⟨_, _, b3, rfl, rfl⟩ | ⟨_, _, b3, rfl, rfl⟩
    · exact absurd hf2 b
    · obtain ⟨x, hx, e⟩ := hex2
      exact absurd e (b x hx)
    · exact ⟨rfl, rfl, .inl ⟨⟨_, _, rfl⟩, rfl⟩⟩
    · rw [h.order.2 a3] at b3; cases b3
  · rcases h2 with ⟨b, _⟩ | ⟨_, b, _⟩ | ⟨_, _, b3, rfl, rfl⟩ | ⟨_, _, b3, rfl, rfl⟩
    · exact absurd hf2 b
    · obtain ⟨x, hx, e⟩ := hex2
      exact absurd e (b x hx)
    · rw [h.order.1 b3] at a3; cases a3
    · have he := h.want (fs := fs) (fs' := fs') a3 hfs hex
      rw [← he]
      refine ⟨rfl, rfl, ?_⟩
      cases hc : (Bf.want Af.actO fs l out).2 with
      | zero => exact .inr rfl
      | succ m => exact .inl ⟨⟨_, _, rfl⟩, want_err (by rw [hc]; omega)⟩
theorem ins_len : ∀ (l : List Ru), (∀ x ∈ l, x.ins.length ≤ 12) → (l.flatMap Ru.ins).length ≤ l.length * 12
  | [], _ => by simp
  | r :: t, h => by
    have h1 := ins_len t fun x hx => h x (List.mem_cons_of_mem _ hx)
    have h2 := h r (by simp)
    rw [List.flatMap_cons, List.length_append, List.length_cons]
    omega
theorem leaves_len {l : List Ru} {r : List (List UInt8)} (h : Ru.Leaves l r) (h12 : ∀ x ∈ l, x.ins.length ≤ 12) (h40 : l.length ≤ 40) : r.length ≤ 480 := by
  have h1 := Cf.nodup_len (b := l.flatMap Ru.ins) h.once fun x hx => by
    obtain ⟨⟨y, hy, hm⟩, _⟩ := (h.mem x).1 hx
    exact List.mem_flatMap.2 ⟨y, hy, hm⟩
  have h2 := ins_len l h12
  have h3 : l.length * 12 ≤ 40 * 12 := Nat.mul_le_mul h40 (Nat.le_refl _)
  omega
theorem RRow.vals {w : World} {v : Value} {l : List Ru} (h : RRow w v l) : ∃ p cap, ∃ uv : Nat → Value, v = .slice p l.length cap ∧ ∀ i (hi : i < l.length), ∃ g o, p = some ⟨g, o, none⟩ ∧ w.cell? ⟨g, o + i * 4, none⟩ = some (.string (ba l[i].out)) ∧ w.cell? ⟨g, o + i * 4 + 1, none⟩ = some (.string (ba l[i].kind)) ∧ w.cell? ⟨g, o + i * 4 + 2, none⟩ = some (.string (ba l[i].word)) ∧ w.cell? ⟨g, o + i * 4 + 3, none⟩ = some (uv i) ∧ XRow w (uv i) l[i].ins := by
  obtain ⟨p, cap, rfl, hcap, hnn, hin⟩ := h
  by_cases h0 : l = []
  · exact ⟨p, cap, fun _ => .nilIface, rfl, fun i hi => by rw [h0] at hi; simp at hi⟩
  · obtain ⟨g, o, rfl, hg, hat⟩ := hin h0
    refine ⟨_, cap, fun i => (w.cell? ⟨g, o + i * 4 + 3, none⟩).getD .nilIface, rfl, fun i hi => ?_⟩
    obtain ⟨b0, b1, b2, u, b3, hu⟩ := hat i hi
    refine ⟨g, o, rfl, b0, b1, b2, ?_, ?_⟩
    · show _ = some ((w.cell? ⟨g, o + i * 4 + 3, none⟩).getD .nilIface)
      rw [b3]; rfl
    · show XRow w ((w.cell? ⟨g, o + i * 4 + 3, none⟩).getD .nilIface) _
      rw [b3]; exact hu
def partV (l : List Ru) (uv : Nat → Value) (ns : List Nat) : List (Ru × Value) := ns.map fun i => (l.getD i ⟨[], [], [], []⟩, uv i)
theorem partV_fst (l : List Ru) (uv : Nat → Value) (ns : List Nat) : (partV l uv ns).map Prod.fst = Ru.part l ns := by simp [partV, Ru.part]
theorem partV_len (l : List Ru) (uv : Nat → Value) (ns : List Nat) : (partV l uv ns).length = ns.length := by simp [partV]
theorem partV_snoc (l : List Ru) (uv : Nat → Value) (ns : List Nat) (i : Nat) : partV l uv (ns ++ [i]) = partV l uv ns ++ [(l.getD i ⟨[], [], [], []⟩, uv i)] := by simp [partV]
theorem partV_row {w : World} {base : Nat} {v : Value} {l : List Ru} {uv : Nat → Value} {ns : List Nat} (h : w.ownsRow base 90 4 v ns.length (ruCells (partV l uv ns))) (hl : ∀ i ∈ ns, i < l.length) (hx : ∀ i (hi : i < l.length), XRow w (uv i) l[i].ins) : RRow w v (Ru.part l ns) := by
  rw [← partV_fst l uv ns]
  refine RRow.of_owns h (partV_len l uv ns).symm fun x hxm => ?_
  obtain ⟨i, hi, e⟩ := List.mem_map.1 hxm
  have := hl i hi
  rw [← e]
  simp only
  rw [Bf.getD_at this]
  exact hx i this
theorem part_small {l : List Ru} (hS : ∀ x ∈ l, x.Small) {ns : List Nat} (hl : ∀ i ∈ ns, i < l.length) : ∀ x ∈ Ru.part l ns, x.Small := fun x hx => by
  obtain ⟨i, hi, e⟩ := List.mem_map.1 hx
  rw [Bf.getD_at (hl i hi)] at e
  rw [← e]; exact hS _ (List.getElem_mem _)
structure PutL (wL : World) (T : Nat) (oU : Option Nat) (B : Nat) (lv : List (List UInt8)) (fs : Tf.Fs) (wr : World) (fs' : Tf.Fs) (o' : Option Nat) : Prop where
  tree : TreeAt B wr T fs' o'
  well : Tf.Well pathB fs'
  len : ∀ f ∈ fs', f.1.length ≤ 1000
  same : ∀ x ∈ lv, Tf.get fs x = Tf.get fs' x
  new : ∀ j, o' = some j → oU = some j ∨ wL.heap.size ≤ j
  only : Only (fun j => j = T ∨ oU = some j) wL wr
theorem PutL.below {wL : World} {T : Nat} {oU : Option Nat} {B : Nat} {lv : List (List UInt8)} {fs : Tf.Fs} {wr w' : World} {fs' : Tf.Fs} {o' : Option Nat} (h : PutL wL T oU B lv fs wr fs' o') (hb : Below wr.heap.size wr w') : PutL wL T oU B lv fs w' fs' o' :=
  ⟨h.tree.below hb, h.well, h.len, h.same, h.new, h.only.trans (Only.of hb (S := fun j => j = T ∨ oU = some j)) fun _ hj => .inl hj⟩
theorem PutL.put {wL : World} {T : Nat} {oU : Option Nat} {B : Nat} {lv : List (List UInt8)} {fs : Tf.Fs} {wr w' : World} {fs' : Tf.Fs} {o' o2 : Option Nat} (h : PutL wL T oU B lv fs wr fs' o') {p b : List UInt8} (hp : p ∉ lv) (hpl : p.length ≤ 1000) (hon : OldNew wr o' o2) (hT : TreeAt B w' T (Tf.putF pathB fs' p b) o2) (hB : Below B wr w') (hk : Kept (tS T o') wr w') : PutL wL T oU B lv fs w' (Tf.putF pathB fs' p b) o2 := by
  refine ⟨hT, h.well.putF p b, fun f hf => ?_, fun x hx => ?_, fun j hj => ?_, ⟨hB.os.trans h.only.os, hB.tape.trans h.only.tape, hB.output.trans h.only.output, Nat.le_trans h.only.size hB.size, fun j hj hn => (hk.block j (Nat.lt_of_lt_of_le hj h.only.size) fun hs => ?_).trans (h.only.block j hj hn)⟩⟩
  · rcases Tf.putF_mem hf with h1 | h1
    · exact h.len f h1
    · rw [h1]; exact hpl
  · rw [h.same x hx, Tf.get_putF fun e => hp (by rw [e]; exact hx)]
  · rcases hon with e | ⟨q, e1, e2⟩
    · exact h.new j (by rw [← e]; exact hj)
    · rw [e1] at hj; cases hj
      exact .inr (Nat.le_trans h.only.size e2)
  · rcases hs with e | e
    · exact hn (.inl e)
    · rcases h.new j e with h1 | h1
      · exact hn (.inr h1)
      · omega
end Go.Proofs.YtmhipgompplkdaaGreatDoor
namespace Go.Proofs.YtmhipgompplkdaaGreatDoor
open Go.RowKit Go.Shelf Go.Lib Go.Maps
namespace Bf
end Bf
theorem TreeAt.lowM {B : Nat} {w : World} {tb : Nat} {fs : Tf.Fs} {o : Option Nat} (h : TreeAt B w tb fs o) {j : Nat} (e : o = some j) : B ≤ j := by
  subst e
  exact h.isMap.1
end Go.Proofs.YtmhipgompplkdaaGreatDoor
