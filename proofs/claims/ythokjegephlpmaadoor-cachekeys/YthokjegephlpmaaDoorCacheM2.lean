/- The document's answer's cache: Put, Get, Keys: the walks. -/
import Derived.Test.YthokjegephlpmaaDoorCacheM
namespace Go.Proofs.YthokjegephlpmaaDoor
open Go.RowKit Go.Shelf Go.Lib

theorem Tryd.infoEntry : (Tryd.prog.info? 69).map (fun i => (i.zero, i.size, i.bytes)) = some (some (.agg #[.string ⟨#[]⟩, .string ⟨#[]⟩]), 2, 32) := by kernel_rfl
theorem two_newE (W : World) (x y : Value) (t : TypeId) (n : Nat) (hn : W.heap.size = n) (j : Nat) (u : Value) (h : [x, y][j]? = some u) : (W.alloc (.cells #[x, y] t)).cell? ((⟨n, 0, none⟩ : Addr).add j) = some u := by
  subst hn
  rw [add_at]
  match j, h with
  | 0, h => simp at h; subst h; simp
  | 1, h => simp at h; subst h; simp
/-- What has been laid new, as a row of entries. -/
theorem ERow.of_owns {w : World} {B : Nat} {v : Value} {l : Cf.Ens} (h : w.ownsRow B 69 2 v l.length (enCells l)) : ∃ p cap, v = .slice p l.length cap ∧ l.length ≤ cap ∧ (l ≠ [] → ∃ g, p = some ⟨g, 0, none⟩ ∧ B ≤ g ∧ g < w.heap.size ∧ ∀ j (hj : j < l.length), w.cell? ⟨g, j * 2, none⟩ = some (.string (ba l[j].1)) ∧ w.cell? ⟨g, j * 2 + 1, none⟩ = some (.string (ba l[j].2))) := by
  rcases h.2 with ⟨rfl, hn⟩ | ⟨g, cap, cur, rfl, hB, hb, h1, _, hcs, h4⟩
  · exact ⟨none, 0, by rw [hn], by omega, fun hl => absurd (List.length_eq_zero_iff.1 hn) hl⟩
  · refine ⟨_, cap, rfl, h1, fun _ => ⟨g, rfl, hB, (Array.getElem?_eq_some_iff.1 hb).1, fun j hj => ?_⟩⟩
    have hg := enCells_get l j hj
    have key : ∀ i, i < l.length * 2 → cur[i]? = (enCells l)[i]? := fun i hi => by
      have := congrArg (fun x => x[i]?) h4
      simp only [List.getElem?_take, hi, if_true, Array.getElem?_toList] at this
      exact this
    refine ⟨?_, ?_⟩
    · simp only [World.cell?, hb]
      simpa using (key (j * 2) (by omega)).trans hg.1
    · simp only [World.cell?, hb]
      simpa using (key (j * 2 + 1) (by omega)).trans hg.2

theorem own_pos {W : World} {B : Nat} {e : TypeId} {s n : Nat} {v : Value} {xs : List Value} (h : W.ownsRow B e s v (n + 1) xs) : ∃ g cap, v = .slice (some ⟨g, 0, none⟩) (n + 1) cap ∧ B ≤ g ∧ n + 1 ≤ cap ∧ g < W.heap.size := by
  rcases h.2 with ⟨_, h0⟩ | ⟨g, cap, cur, rfl, hB, hb, h1, _⟩
  · omega
  · exact ⟨g, cap, rfl, hB, h1, (Array.getElem?_eq_some_iff.1 hb).1⟩
/-- Behind Put's store. -/
theorem MAt.stored {T : Nat → Prop} {W w5 : World} {mb m g o n cap : Nat} {l : Cf.Ens} (HT : T mb) (hmb : mb < W.heap.size) (B5 : Below W.heap.size W w5) (c0 : W.cell? ⟨mb, 0, none⟩ = some (.int .i64 m)) (c1 : (W.cell? ⟨mb, 1, none⟩).isSome = true) (f1 : W.frozen? ⟨mb, 1, none⟩ = false)
    (hg : W.heap.size ≤ g) (hg2 : g < w5.heap.size) (hn : n = l.length) (hcap : n ≤ cap) (hc : ∀ j (hj : j < l.length), w5.cell? ⟨g, o + j * 2, none⟩ = some (.string (ba l[j].1)) ∧ w5.cell? ⟨g, o + j * 2 + 1, none⟩ = some (.string (ba l[j].2))) :
    Only T W (w5.setCell ⟨mb, 1, none⟩ (.slice (some ⟨g, o, none⟩) n cap)) ∧ ∃ T', MAt T' (w5.setCell ⟨mb, 1, none⟩ (.slice (some ⟨g, o, none⟩) n cap)) (.pointer (some ⟨mb, 0, none⟩)) m l ∧ ∀ j, T' j → T j ∨ W.heap.size ≤ j := by
  subst hn
  have d0 := cell_below' c0 B5
  have d1 : (w5.cell? ⟨mb, 1, none⟩).isSome = true := by rw [B5.cell (p := ⟨mb, 1, none⟩) hmb]; exact c1
  have e1 : w5.frozen? ⟨mb, 1, none⟩ = false := (B5.frozen (p := ⟨mb, 1, none⟩) hmb).trans f1
  have hS : ∀ c, c ≠ mb → (w5.setCell ⟨mb, 1, none⟩ (.slice (some ⟨g, o, none⟩) l.length cap)).heap[c]? = w5.heap[c]? := fun c hc => Below.heap_setCell w5 ⟨mb, 1, none⟩ _ c hc
  have hz : (w5.setCell ⟨mb, 1, none⟩ (.slice (some ⟨g, o, none⟩) l.length cap)).heap.size = w5.heap.size := by simp
  have h5 := B5.size
  refine ⟨⟨B5.os, B5.tape, B5.output, by rw [hz]; exact h5, fun j hj hs => (hS j fun e => hs (e ▸ HT)).trans (B5.block j hj)⟩, fun j => j = mb ∨ j = g, ⟨⟨mb, _, rfl, .inl rfl, ?_, World.cell?_setCell_same' _ _ _ d1, by rw [World.frozen?_setCell]; exact e1, ?_⟩, ?_⟩, ?_⟩
  · rw [World.cell?_setCell_other]
    · exact d0
    · simp
  · refine ⟨_, cap, rfl, hcap, fun _ => ⟨g, o, rfl, ⟨.inr rfl, by omega⟩, by rw [hz]; exact hg2, fun j hj => ⟨?_, ?_⟩⟩⟩
    · exact (World.cell?_of_block (a := ⟨g, o + j * 2, none⟩) (hS g (by omega))).trans (hc j hj).1
    · exact (World.cell?_of_block (a := ⟨g, o + j * 2 + 1, none⟩) (hS g (by omega))).trans (hc j hj).2
  · rintro j (rfl | rfl)
    · rw [hz]; omega
    · rw [hz]; exact hg2
  · rintro j (rfl | rfl)
    · exact .inl HT
    · exact .inr hg

set_option maxRecDepth 100000 in
set_option maxHeartbeats 16000000 in
theorem mPut_calls {T : Nat → Prop} {W : World} {v : Value} {m : Nat} {l : Cf.Ens} (h : MAt T W v m l) (hm : 1 ≤ m) (hm2 : m ≤ 1000) (hl : l.length ≤ 1000) (k b : List UInt8) :
    Calls Tryd.prog 18 #[v, .string (ba k), .string (ba b)] W fun e w' => e = .returned (.tuple #[]) ∧ Only T W w' ∧ ∃ T', MAt T' w' v m (Cf.put m l k b) ∧ ∀ j, T' j → T j ∨ W.heap.size ≤ j := by
  have hlt := h.lt
  obtain ⟨mb, u, rfl, hT, c0, c1, f1, p, cap, rfl, hcap, hin⟩ := h.lies
  have HI := hid1 hin
  have hmb := hlt mb hT
  obtain ⟨i0, hi, hz0, hz1, hz2⟩ := info_parts Tryd.infoEntry
  have zl : (l.length : Int) ≤ 1000 := by omega
  have zm : (m : Int) ≤ 1000 := by omega
  have zm1 : (1 : Int) ≤ (m : Int) := by omega
  have HT := hid1 hT
  have HLt := hid1 hlt
  have HPut : Hid (Cf.put m l k b = if m < (Cf.rm l k ++ [(k, b)]).length then (Cf.rm l k ++ [(k, b)]).drop 1 else Cf.rm l k ++ [(k, b)]) := hid1 rfl
  have hrml := Cf.rm_le l k
  clear hin h hT hlt
  go_enter Tryd.func18, Tryd.ntmps18
  go_wp2
  go_loopw [6, 7] (fun lv iv wr => ∃ j : Nat, j ≤ l.length ∧ iv = .int .i64 j ∧ wr.ownsRow W.heap.size 69 2 lv (Cf.rm (l.take j) k).length (enCells (Cf.rm (l.take j) k)) ∧ Below W.heap.size W wr) (fun _ iv _ => l.length - (intOf iv).toNat)
  case atStart => exact ⟨0, Nat.zero_le _, rfl, World.ownsRow_nil _ _ _ _, Below.refl _ _⟩
  case round =>
    obtain ⟨j, hj, rfl, hO, B⟩ := hrel
    have HO := hid1 hO
    clear hO
    have j0 : (0 : Int) ≤ (j : Int) := by omega
    have d1 := cell_below' c1 B
    by_cases hlt : j < l.length
    · have j1 : (j : Int) < (l.length : Int) := by omega
      obtain ⟨g, o, rfl, -, hg, hc⟩ := HI.out (by intro e; rw [e] at hlt; simp at hlt)
      have d2 := (B.cell (p := ⟨g, o + j * 2, none⟩) hg).trans (hc j hlt).1
      have d3 := (B.cell (p := ⟨g, o + j * 2 + 1, none⟩) hg).trans (hc j hlt).2
      have hrl : (Cf.rm (l.take j) k).length ≤ 1000 := by
        have := Cf.rm_le (l.take j) k
        rw [List.length_take] at this
        omega
      have HS : Hid (Cf.rm (l.take (j + 1)) k = Cf.rm (l.take j) k ++ (if l[j].1 = k then [] else [l[j]])) := hid1 (by
        rw [List.take_succ_eq_append_getElem hlt, Cf.rm_append]
        congr 1
        unfold Cf.rm
        by_cases e : l[j].1 = k
        · rw [if_pos e, List.filter_cons_of_neg (by simp [e])]
          rfl
        · rw [if_neg e, List.filter_cons_of_pos (by simp [e])]
          rfl)
      clear hc HI
      generalize l[j] = y at *
      by_cases he : y.1 = k
      · rw [if_pos he, List.append_nil] at HS
        have e1 : (y.1 == k) = true := by simpa using he
        clear he
        go_wp2
        exact ⟨⟨j + 1, by omega, by go_num, by rw [HS.out]; exact HO.out, B⟩, by simp [intOf]; omega⟩
      · rw [if_neg he] at HS
        have e1 : (y.1 == k) = false := by simpa using he
        have hrow := HO.out
        have hml : (Cf.rm (l.take j) k).length + 1 ≤ maxLen := by unfold maxLen; omega
        have hbz := B.size
        clear he
        go_wp2_with (first
          | (at_builtin; refine wpList_append_own _ rfl _ _ 45 rfl W.heap.size 69 i0 (.agg #[.string ⟨#[]⟩, .string ⟨#[]⟩]) 2 32 Tryd.underlying45 hi hz0 hz1 hz2 rfl (by decide) _ _ _ rfl (hrow.alloc _) ⟨wr.heap.size, 0, none⟩ 1 1 [.string (ba y.1), .string (ba y.2)] rfl rfl (two_newE _ _ _ _ _ (by simp)) (by simp [Value.oneCell']) hml (by omega) (by simp; omega) ?_; intro v' w4 hown' hgrow _)
          | fail)
        exact ⟨⟨j + 1, by omega, by go_num, by rw [HS.out, List.length_append, enCells_snoc]; exact hown', below_appended B hbz hrow hgrow⟩, by simp [intOf]; omega⟩
    · have j1 : (l.length : Int) ≤ (j : Int) := by omega
      obtain rfl : j = l.length := by omega
      have hrow : wr.ownsRow W.heap.size 69 2 u6 (Cf.rm l k).length (enCells (Cf.rm l k)) := by
        have := HO.out
        rwa [List.take_length] at this
      have hml : (Cf.rm l k).length + 1 ≤ maxLen := by unfold maxLen; omega
      have hbz := B.size
      have HB5 := hid1 fun (w5 : World) (hgr : (wr.alloc (.cells #[.string (ba k), .string (ba b)] 69)).grownBy w5 u6.ownBlock) => below_appended B hbz hrow hgr
      have hf0 := (B.frozen (p := ⟨mb, 1, none⟩) hmb).trans f1
      have HF1 := hid1 f1
      have HC0 := hid1 c0
      have HC1 := hid1 c1
      clear HO HI
      by_cases hbig : m < (Cf.rm l k ++ [(k, b)]).length
      · rw [if_pos hbig] at HPut
        rw [List.length_append, List.length_singleton] at hbig
        have hb1 : (m : Int) < ((Cf.rm l k).length : Int) + 1 := by omega
        have hb2 : ((Cf.rm l k).length : Int) ≤ 1000 := by omega
        go_wp2_with (first
          | (at_builtin; refine wpList_append_own _ rfl _ _ 45 rfl W.heap.size 69 i0 (.agg #[.string ⟨#[]⟩, .string ⟨#[]⟩]) 2 32 Tryd.underlying45 hi hz0 hz1 hz2 rfl (by decide) _ _ _ rfl (hrow.alloc _) ⟨wr.heap.size, 0, none⟩ 1 1 [.string (ba k), .string (ba b)] rfl rfl (two_newE _ _ _ _ _ (by simp)) (by simp [Value.oneCell']) hml (by omega) (by simp; omega) ?_; intro v5 w5 hown5 hgrow5 _; (obtain ⟨g5, cap5, rfl, hg5, hcap5, hgl5⟩ := own_pos hown5); (have B5 := HB5.out _ hgrow5); (have q0 := cell_below' c0 B5); (have q1 := cell_below' c1 B5); (have q2 := (B5.frozen (p := ⟨mb, 1, none⟩) hmb).trans f1); (have q3 : ¬ cap5 = 1 := by omega); (have q4 : 1 ≤ cap5 := by omega); (have HO5 := hid1 hown5); clear hown5 hgrow5)
          | fail)
        go_wp2
        go_end0
        obtain ⟨p6, cap6, e6, -, hc6⟩ := ERow.of_owns (l := Cf.rm l k ++ [(k, b)]) (by rw [List.length_append, List.length_singleton, enCells_snoc]; exact HO5.out)
        obtain ⟨g6, e7, -, -, hc7⟩ := hc6 (by simp)
        obtain rfl : g5 = g6 := by
          rw [e7] at e6
          simp only [Value.slice.injEq, Option.some.injEq, Addr.mk.injEq] at e6
          exact e6.1.1
        have hdl : ((Cf.rm l k ++ [(k, b)]).drop 1).length = (Cf.rm l k).length := by simp
        obtain ⟨h1, T', h2, h3⟩ := MAt.stored (g := g5) (o := 2) (n := (Cf.rm l k).length) (cap := cap5 - 1) (l := (Cf.rm l k ++ [(k, b)]).drop 1) HT.out hmb B5 HC0.out (by rw [HC1.out]; rfl) HF1.out hg5 hgl5 hdl.symm (by omega) (fun j hj => by
          have hj' : 1 + j < (Cf.rm l k ++ [(k, b)]).length := by rw [List.length_drop] at hj; omega
          have := hc7 (1 + j) hj'
          rw [List.getElem_drop]
          rw [show 2 + j * 2 = (1 + j) * 2 by omega]
          exact this)
        refine ⟨rfl, h1, T', ?_, h3⟩
        rw [HPut.out]
        exact h2
      · rw [if_neg hbig] at HPut
        rw [List.length_append, List.length_singleton] at hbig
        have hb1 : ((Cf.rm l k).length : Int) + 1 ≤ (m : Int) := by omega
        have hb2 : ((Cf.rm l k).length : Int) ≤ 1000 := by omega
        go_wp2_with (first
          | (at_builtin; refine wpList_append_own _ rfl _ _ 45 rfl W.heap.size 69 i0 (.agg #[.string ⟨#[]⟩, .string ⟨#[]⟩]) 2 32 Tryd.underlying45 hi hz0 hz1 hz2 rfl (by decide) _ _ _ rfl (hrow.alloc _) ⟨wr.heap.size, 0, none⟩ 1 1 [.string (ba k), .string (ba b)] rfl rfl (two_newE _ _ _ _ _ (by simp)) (by simp [Value.oneCell']) hml (by omega) (by simp; omega) ?_; intro v5 w5 hown5 hgrow5 _; (obtain ⟨g5, cap5, rfl, hg5, hcap5, hgl5⟩ := own_pos hown5); (have B5 := HB5.out _ hgrow5); (have q0 := cell_below' c0 B5); (have q1 := cell_below' c1 B5); (have q2 := (B5.frozen (p := ⟨mb, 1, none⟩) hmb).trans f1); (have q4 : 1 ≤ cap5 := by omega); (have HO5 := hid1 hown5); clear hown5 hgrow5)
          | fail)
        go_wp2
        go_end0
        obtain ⟨p6, cap6, e6, -, hc6⟩ := ERow.of_owns (l := Cf.rm l k ++ [(k, b)]) (by rw [List.length_append, List.length_singleton, enCells_snoc]; exact HO5.out)
        obtain ⟨g6, e7, -, -, hc7⟩ := hc6 (by simp)
        obtain rfl : g5 = g6 := by
          rw [e7] at e6
          simp only [Value.slice.injEq, Option.some.injEq, Addr.mk.injEq] at e6
          exact e6.1.1
        obtain ⟨h1, T', h2, h3⟩ := MAt.stored (g := g5) (o := 0) (n := (Cf.rm l k).length + 1) (cap := cap5) (l := Cf.rm l k ++ [(k, b)]) HT.out hmb B5 HC0.out (by rw [HC1.out]; rfl) HF1.out hg5 hgl5 (by simp) (by omega) (fun j hj => by
          have := hc7 j hj
          rw [Nat.zero_add]
          exact this)
        refine ⟨rfl, h1, T', ?_, h3⟩
        rw [HPut.out]
        exact h2

theorem keys_find {l : Cf.Ens} {j : Nat} (hj : j < l.length) {k : List UInt8} (h1 : l[j].1 = k) (h2 : k ∉ Cf.keys (l.take j)) : Cf.find l k = some l[j].2 := by
  have e : l = l.take j ++ l[j] :: l.drop (j + 1) := by rw [← List.drop_eq_getElem_cons hj, List.take_append_drop]
  have hn : (l.take j).find? (fun e => e.1 == k) = none := List.find?_eq_none.2 fun x hx => by
    have : x.1 ≠ k := fun e => h2 (List.mem_map.2 ⟨x, hx, e⟩)
    simpa using this
  unfold Cf.find
  have : l.find? (fun e => e.1 == k) = some l[j] := by
    generalize l[j] = y at *
    rw [e, List.find?_append, hn, List.find?_cons_of_pos (by simp [h1])]
    rfl
  rw [this]
  rfl
theorem keys_find_none {l : Cf.Ens} {k : List UInt8} (h : k ∉ Cf.keys l) : Cf.find l k = none := by
  cases hf : Cf.find l k with
  | none => rfl
  | some b => exact absurd (List.mem_map.2 ⟨_, Cf.find_some hf, rfl⟩) h

set_option maxRecDepth 100000 in
set_option maxHeartbeats 4000000 in
theorem mGet_calls {T : Nat → Prop} {W : World} {v : Value} {m : Nat} {l : Cf.Ens} (h : MAt T W v m l) (hm : 1 ≤ m) (hm2 : m ≤ 1000) (hl : l.length ≤ 1000) (k : List UInt8) :
    Calls Tryd.prog 19 #[v, .string (ba k)] W fun e w' => e = .returned (.tuple #[.string (ba ((Cf.find l k).getD [])), .bool (Cf.find l k).isSome]) ∧ Only T W w' ∧ ∃ T', MAt T' w' v m (Cf.get m l k) ∧ ∀ j, T' j → T j ∨ W.heap.size ≤ j := by
  have HF := hid1 (mFind_calls h hl k)
  have HP := hid1 fun b => mPut_calls h hm hm2 hl k b
  have HM := hid1 h
  obtain ⟨mb, u, rfl, hT, c0, c1, f1, p, cap, rfl, hcap, hin⟩ := h.lies
  have HI := hid1 hin
  have zl : (l.length : Int) ≤ 1000 := by omega
  have HG : Hid (∀ b, Cf.find l k = some b → Cf.get m l k = Cf.put m l k b) := hid1 fun b hb => by unfold Cf.get; rw [hb]
  have HG0 : Hid (Cf.find l k = none → Cf.get m l k = l) := hid1 fun hb => by unfold Cf.get; rw [hb]
  clear hin h hT
  go_enter Tryd.func19, Tryd.ntmps19
  go_wp2_with fail
  refine HF.out.mono ?_
  rintro e w1 ⟨r, rfl, rfl, hr⟩
  clear HF
  rcases hr with ⟨rfl, hno⟩ | ⟨j, rfl, hj, h1, h2⟩
  · have hf := keys_find_none hno
    have HQ := hid1 (HG0.out hf)
    have HE := hid1 hf
    clear hf hno HG HG0 HP HI
    go_wp2
    go_ret2
    refine ⟨by rw [HE.out]; rfl, Only.of (Below.refl _ _), T, ?_, fun j hj => .inl hj⟩
    rw [HQ.out]
    exact HM.out
  · have hf := keys_find hj h1 h2
    have HQ := hid1 (HG.out _ hf)
    have HE := hid1 hf
    obtain ⟨g, o, rfl, -, hg, hc⟩ := HI.out (by intro e; rw [e] at hj; simp at hj)
    have d3 := (hc j hj).2
    have j0 : (0 : Int) ≤ (j : Int) := by omega
    have j1 : (j : Int) < (l.length : Int) := by omega
    have HPj := hid1 (HP.out l[j].2)
    clear hf HG HG0 HP HI hc h1 h2
    generalize l[j].2 = y at *
    go_wp2_with fail
    refine HPj.out.mono ?_
    rintro e w2 ⟨rfl, hO, T', hM, hTT⟩
    have HR := hid1 (And.intro hO (And.intro hM hTT))
    clear HPj hO hM hTT
    go_wp2
    go_ret2
    refine ⟨by rw [HE.out]; rfl, HR.out.1, T', ?_, HR.out.2.2⟩
    rw [HQ.out]
    exact HR.out.2.1

set_option maxRecDepth 100000 in
set_option maxHeartbeats 4000000 in
theorem mKeys_calls {T : Nat → Prop} {W : World} {v : Value} {m : Nat} {l : Cf.Ens} (h : MAt T W v m l) (hl : l.length ≤ 1000) :
    Calls Tryd.prog 21 #[v] W fun e w' => ∃ u, e = .returned u ∧ IRow w' u (Cf.keys l) ∧ Below W.heap.size W w' := by
  obtain ⟨mb, u, rfl, hT, c0, c1, f1, p, cap, rfl, hcap, hin⟩ := h.lies
  have HI := hid1 hin
  obtain ⟨i0, hi, hz0, hz1, hz2⟩ := info_parts Tryd.infoStr
  have zl : (l.length : Int) ≤ 1000 := by omega
  clear hin h hT
  go_enter Tryd.func21, Tryd.ntmps21
  go_wp2
  go_loopw [3, 4] (fun ov iv wr => ∃ j : Nat, j ≤ l.length ∧ iv = .int .i64 j ∧ wr.ownsRow W.heap.size 9 1 ov j ((Cf.keys (l.take j)).map sv) ∧ Below W.heap.size W wr) (fun _ iv _ => l.length - (intOf iv).toNat)
  case atStart => exact ⟨0, Nat.zero_le _, rfl, World.ownsRow_nil _ _ _ _, Below.refl _ _⟩
  case round =>
    obtain ⟨j, hj, rfl, hO, B⟩ := hrel
    have HO := hid1 hO
    clear hO
    have j0 : (0 : Int) ≤ (j : Int) := by omega
    have d1 := cell_below' c1 B
    by_cases hlt : j < l.length
    · have j1 : (j : Int) < (l.length : Int) := by omega
      obtain ⟨g, o, rfl, -, hg, hc⟩ := HI.out (by intro e; rw [e] at hlt; simp at hlt)
      have d2 := (B.cell (p := ⟨g, o + j * 2, none⟩) hg).trans (hc j hlt).1
      have HS : Hid ((Cf.keys (l.take (j + 1))).map sv = (Cf.keys (l.take j)).map sv ++ [sv l[j].1]) := hid1 (by
        rw [List.take_succ_eq_append_getElem hlt]
        unfold Cf.keys
        rw [List.map_append, List.map_append]
        rfl)
      have hrow := HO.out
      have hml : j + 1 ≤ maxLen := by unfold maxLen; omega
      have hbz := B.size
      clear hc HI
      generalize l[j].1 = y at *
      go_wp2_with (at_builtin; refine wpList_append_own _ rfl _ _ 22 rfl W.heap.size 9 i0 (.string ⟨#[]⟩) 1 16 Tryd.underlying22 hi hz0 hz1 hz2 rfl (by decide) _ _ _ rfl (hrow.alloc _) ⟨wr.heap.size, 0, none⟩ 1 1 [.string (ba y)] rfl rfl (cell_one_new _ _ _) (by simp [Value.oneCell']) hml (by omega) (by simp; omega) ?_; intro v' w4 hown' hgrow _)
      exact ⟨⟨j + 1, by omega, by go_num, by rw [HS.out]; exact hown', below_appended B hbz hrow hgrow⟩, by simp [intOf]; omega⟩
    · have j1 : (l.length : Int) ≤ (j : Int) := by omega
      obtain rfl : j = l.length := by omega
      have HQ : Hid (IRow wr u3 (Cf.keys l)) := hid1 (by
        have := HO.out
        rw [List.take_length] at this
        exact (XRow.of_owns this).irow)
      clear HO HI
      go_wp2
      go_ret
      exact ⟨_, rfl, HQ.out, B⟩
end Go.Proofs.YthokjegephlpmaaDoor
