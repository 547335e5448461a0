/- The document's answer's partsOf and IsPath: the walks; and that they ask what package path asks. -/
import Derived.Test.YtigcogfjclohjaaGreatDoorRName
import Derived.Test.YtigcogfjclohjaaGreatDoorPLetters
import Derived.Test.YtigcogfjclohjaaGreatDoorPRows
import Derived.WalkSmall
namespace Go.Proofs.YtigcogfjclohjaaGreatDoor
open Go.RowKit Go.Shelf Go.Lib

/-- Runes that are all letters are bytes that are all letters. -/
theorem nameK_R (l : List UInt8) : nameK letter (ba l) = nameR false l := by
  have h := idx_bytes letter letter_high l (ba l).size 0 (by rw [ba_size]; omega)
  unfold nameK nameR Lib.idxFunc
  rw [h, ba_toList, ba_size]
  simp [byteOk]

set_option maxHeartbeats 1000000 in
theorem risName_calls (stars : Bool) (s : List UInt8) (hs : s.length ≤ 1000000) (w : World) :
    Calls Tryz.prog 71 #[.string (ba s), .bool stars] w fun e w' => e = .returned (.bool (nameR stars s)) ∧ ∃ q, w' = w.drewN q := by
  obtain ⟨bs, eb, T⟩ := txt s
  rw [eb]
  clear eb
  have hz := T.size
  have e1 : bs.toList = s := by rw [T.eq, ba_toList]
  by_cases h1 : s = []
  · have e : nameR stars s = false := by simp [nameR, h1]
    have c0 : (bs.size : Int) < 1 := by rw [hz, h1]; simp
    have HE : Hid (nameR stars s = false) := e
    clear e e1 hz h1
    go_enter Tryz.func71, Tryz.ntmps71
    go_wp2
    go_ret
    exact ⟨ret_bool HE.out.symm, 0, rfl⟩
  have hpos : 0 < s.length := List.length_pos_iff.2 h1
  have c0 : (1 : Int) ≤ (bs.size : Int) := by omega
  by_cases h2 : 12 < s.length
  · have e : nameR stars s = false := by simp [nameR]; intros; omega
    have c1 : (12 : Int) < (bs.size : Int) := by omega
    have HE : Hid (nameR stars s = false) := e
    clear e e1 hz h1
    go_enter Tryz.func71, Tryz.ntmps71
    go_wp2
    go_ret
    exact ⟨ret_bool HE.out.symm, 0, rfl⟩
  have c1 : (bs.size : Int) ≤ 12 := by omega
  by_cases h3 : s = [46]
  · have e : nameR stars s = false := by simp [nameR, h3]
    have c3 : (bs.toList == [46]) = true := by rw [e1, h3]; rfl
    have c3' : bs.toList = [46] := by rw [e1, h3]
    have HE : Hid (nameR stars s = false) := e
    clear e e1 hz h1 h3
    go_enter Tryz.func71, Tryz.ntmps71
    go_wp2
    go_ret
    exact ⟨ret_bool HE.out.symm, 0, rfl⟩
  by_cases h4 : s = [46, 46]
  · have e : nameR stars s = false := by simp [nameR, h4]
    have c3 : (bs.toList == [46]) = false := by rw [e1, h4]; rfl
    have c4 : (bs.toList == [46, 46]) = true := by rw [e1, h4]; rfl
    have HE : Hid (nameR stars s = false) := e
    clear e e1 hz h1 h3 h4
    go_enter Tryz.func71, Tryz.ntmps71
    go_wp2
    go_ret
    exact ⟨ret_bool HE.out.symm, 0, rfl⟩
  have e : nameR stars s = s.all (fun b => byteOk stars b.toNat) := by
    unfold nameR
    simp [h1, h3, h4, show s.length ≤ 12 by omega]
  rw [e]
  exact rname_round stars bs s T (by omega) h1 h3 h4 w

/-- Parts of a path, or of a pattern. -/
def okR (stars : Bool) (s : List UInt8) : Bool := decide ((Kf.parts s).length ≤ 5) && (Kf.parts s).all (fun p => nameR stars p)

theorem pathB_R (s : List UInt8) : pathB s = okR false s := by
  unfold pathB allB okR
  congr 1
  exact List.all_congr rfl (fun p => nameK_R p)

theorem part_len {s p : List UInt8} (h : p ∈ Kf.parts s) : p.length ≤ s.length := by
  have h1 := Kf.tot_parts s
  obtain ⟨a, b, e⟩ := List.append_of_mem h
  rw [e] at h1
  simp [Kf.tot] at h1
  omega


set_option maxRecDepth 100000 in
set_option maxHeartbeats 2000000 in
theorem partsOf_calls (stars : Bool) (s : List UInt8) (hs : s.length ≤ 1000000) (w : World) :
    Calls Tryz.prog 52 #[.string (ba s), .bool stars] w fun e w' => ∃ v, e = .returned v ∧ ((okR stars s = true ∧ w'.ownsRow w.heap.size 9 1 v (Kf.parts s).length ((Kf.parts s).map sv)) ∨ (okR stars s = false ∧ v = .slice none 0 0)) ∧ Below w.heap.size w w' := by
  go_enter Tryz.func52, Tryz.ntmps52
  go_wp2_with fail
  refine (rCut_calls s hs 47 47 rfl w).mono ?_
  rintro e w1 ⟨v, rfl, hrow, hB⟩
  rw [cutB_parts] at hrow
  obtain ⟨m, hm⟩ : ∃ m, (Kf.parts s).length = m + 1 := ⟨(Kf.parts s).length - 1, by have := List.length_pos_iff.2 (Kf.parts_ne s); omega⟩
  obtain ⟨g, cap, rfl⟩ : ∃ g cap, v = .slice (some ⟨g, 0, none⟩) (Kf.parts s).length cap := by
    rw [hm] at hrow ⊢; exact ownsRow_succ hrow
  obtain ⟨o1, o2, o3⟩ := owns_cells hrow
  have hlen := Kf.parts_len s
  have hpl : ∀ p ∈ Kf.parts s, p.length ≤ 1000000 := fun p hp => Nat.le_trans (part_len hp) hs
  have HO : Hid (okR stars s = (decide ((Kf.parts s).length ≤ 5) && (Kf.parts s).all (fun p => nameR stars p))) := rfl
  clear hm o2 o3
  by_cases h5 : 5 < (Kf.parts s).length
  · have hf : okR stars s = false := by rw [HO.out]; simp; intros; omega
    have c5 : (5 : Int) < ((Kf.parts s).length : Int) := by omega
    have HF : Hid (okR stars s = false) := hf
    clear hf o1 hlen hpl hrow
    go_wp2
    go_ret
    exact ⟨_, rfl, .inr ⟨HF.out, rfl⟩, hB⟩
  · have c5 : ((Kf.parts s).length : Int) ≤ 5 := by omega
    have HR : Hid (w1.ownsRow w.heap.size 9 1 (.slice (some ⟨g, 0, none⟩) (Kf.parts s).length cap) (Kf.parts s).length ((Kf.parts s).map sv)) := hrow
    clear hrow hlen
    go_wp2
    go_loopw [6] (fun i wr => ∃ k : Nat, k ≤ (Kf.parts s).length ∧ i = .int .i64 k ∧ ((Kf.parts s).take k).all (fun p => nameR stars p) = true ∧ ∃ q, wr = w1.drewN q) (fun i _ => (Kf.parts s).length - (intOf i).toNat)
    case atStart => exact ⟨0, by omega, rfl, by simp, 0, rfl⟩
    case round =>
      obtain ⟨k, hk, rfl, hall, q, rfl⟩ := hrel
      have HA : Hid (((Kf.parts s).take k).all (fun p => nameR stars p) = true) := hall
      clear hall
      by_cases hlt : k < (Kf.parts s).length
      · have hck : w1.cell? ⟨g, k, none⟩ = some (.string (ba (Kf.parts s)[k])) := by
          have := o1 k (ba (Kf.parts s)[k]) (by rw [List.getElem?_map, List.getElem?_eq_getElem hlt]; rfl)
          simpa using this
        have hpk := hpl (Kf.parts s)[k] (List.getElem_mem hlt)
        have c1 : (k : Int) < ((Kf.parts s).length : Int) := by omega
        have c0 : (0 : Int) ≤ (k : Int) := by omega
        generalize hy : (Kf.parts s)[k] = y at *
        have HY : Hid ((Kf.parts s)[k] = y) := hy
        clear hy o1 hpl
        cases hn : nameR stars y with
        | true =>
          have HN : Hid (nameR stars y = true) := hn
          clear hn
          go_wp2_with fail
          have hc := risName_calls stars y hpk (w1.drewN q)
          rw [HN.out] at hc
          refine hc.mono ?_
          rintro e w2 ⟨rfl, q2, rfl⟩
          clear hc
          go_wp2
          refine ⟨⟨k + 1, by omega, by go_num, ?_, q + q2, ?_⟩, by simp [intOf]; omega⟩
          · rw [List.take_succ_eq_append_getElem hlt, List.all_append, HA.out, HY.out]
            simp [HN.out]
          · simp [World.drewN]
        | false =>
          have hf : okR stars s = false := by
            rw [HO.out]
            have : (Kf.parts s).all (fun p => nameR stars p) = false := by
              rw [List.all_eq_false]
              exact ⟨(Kf.parts s)[k], List.getElem_mem hlt, by rw [HY.out, hn]; simp⟩
            rw [this, Bool.and_false]
          have HF : Hid (okR stars s = false) := hf
          have HN : Hid (nameR stars y = false) := hn
          clear hn hf
          go_wp2_with fail
          have hc := risName_calls stars y hpk (w1.drewN q)
          rw [HN.out] at hc
          refine hc.mono ?_
          rintro e w2 ⟨rfl, q2, rfl⟩
          clear hc
          go_wp2
          go_ret
          exact ⟨_, rfl, .inr ⟨HF.out, rfl⟩, below_draws hB _⟩
      · have hf : okR stars s = true := by
          rw [HO.out]
          have := HA.out
          rw [List.take_of_length_le (by omega)] at this
          rw [this]
          simp; omega
        have HF : Hid (okR stars s = true) := hf
        have c1 : ((Kf.parts s).length : Int) ≤ (k : Int) := by omega
        clear hf o1 hpl
        go_wp2
        go_ret
        exact ⟨_, rfl, .inl ⟨HF.out, HR.out.kept (grownBy_drewN _ _) (.inr (by simp [Value.ownBlock]))⟩, below_draws hB q⟩

theorem IsPath_calls (s : List UInt8) (hs : s.length ≤ 1000000) (w : World) :
    Calls Tryz.prog 48 #[.string (ba s)] w fun e w' => e = .returned (.bool (okR false s)) ∧ Below w.heap.size w w' := by
  have hne := List.length_pos_iff.2 (Kf.parts_ne s)
  go_enter Tryz.func48, Tryz.ntmps48
  go_wp2_with fail
  refine (partsOf_calls false s hs w).mono ?_
  rintro e w1 ⟨v, rfl, (⟨ho, hrow⟩ | ⟨ho, rfl⟩), hB⟩
  · have HO : Hid (okR false s = true) := ho
    obtain ⟨a, n, c, rfl, hn⟩ : ∃ a n c, v = .slice a n c ∧ 0 < n := by
      rcases hrow.2 with ⟨_, h⟩ | ⟨g, cap, cur, h, _⟩
      · omega
      · exact ⟨_, _, _, h, hne⟩
    have hn' : (0 : Int) < (n : Int) := by omega
    clear ho hrow hne
    go_wp2
    go_ret
    exact ⟨ret_bool (by rw [HO.out]), hB⟩
  · have HO : Hid (okR false s = false) := ho
    clear ho
    go_wp2
    go_ret
    exact ⟨ret_bool HO.out.symm, hB⟩
end Go.Proofs.YtigcogfjclohjaaGreatDoor
