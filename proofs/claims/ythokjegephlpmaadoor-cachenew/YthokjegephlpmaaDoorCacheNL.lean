/- The law CacheNew over what package cache does. -/
import Derived.Test.YthokjegephlpmaaDoorCacheN
namespace Go.Proofs.YthokjegephlpmaaDoor
open Go.RowKit Go.Shelf Go.Lib

set_option maxRecDepth 100000 in
set_option maxHeartbeats 16000000 in
theorem CacheNew_calls {W : World} {es : Nat → Addr} {At : (Nat → Prop) → World → Value → Nat → Cf.Ens → Prop} (HC : Caches es At) (many : Int) (v : Value) (l : List Ak) (hrow : AkRow W v l) :
    Calls Tryd.prog 4 #[.int .i64 many, v] W fun e w' => e = .returned (.bool true) ∧ Below W.heap.size W w' := by
  have HK := hid1 (cached_calls HC W)
  obtain ⟨pr, cap, rfl, hin⟩ := hrow
  have HI := hid1 hin
  have HHC := hid1 HC
  clear hin HC
  obtain ⟨i0, hi, hz0, hz1, hz2⟩ := info_parts Tryd.infoStr
  by_cases hlo : many < 1
  · clear HI HHC
    go_enter Tryd.func4, Tryd.ntmps4
    go_wp2_with fail
    refine HK.out.mono ?_
    rintro e w1 ⟨rfl, g1⟩
    clear HK
    go_wp2
    go_ret
    exact ⟨rfl, g1⟩
  · have hlo' : 1 ≤ many := by omega
    by_cases hhi : 100 < many
    · clear HI HHC
      go_enter Tryd.func4, Tryd.ntmps4
      go_wp2_with fail
      refine HK.out.mono ?_
      rintro e w1 ⟨rfl, g1⟩
      clear HK
      go_wp2
      go_ret
      exact ⟨rfl, g1⟩
    · have hhi' : many ≤ 100 := by omega
      by_cases hbig : 100 < l.length
      · have z1 : (100 : Int) < (l.length : Int) := by omega
        clear HI HHC
        go_enter Tryd.func4, Tryd.ntmps4
        go_wp2_with fail
        refine HK.out.mono ?_
        rintro e w1 ⟨rfl, g1⟩
        clear HK
        go_wp2
        go_ret
        exact ⟨rfl, g1⟩
      · have z1 : (l.length : Int) ≤ 100 := by omega
        obtain ⟨m, rfl⟩ : ∃ m : Nat, many = m := ⟨many.toNat, by omega⟩
        have hm : 1 ≤ m := by omega
        have hm' : m ≤ 100 := by omega
        have HMk := hid1 fun X => HHC.out.make X m hm hm'
        clear hlo hhi hbig
        go_enter Tryd.func4, Tryd.ntmps4
        go_wp2_with fail
        refine HK.out.mono ?_
        rintro e w1 ⟨rfl, g1⟩
        clear HK
        go_wp2_with fail
        refine (HMk.out w1).mono ?_
        rintro e w2 ⟨p, S, rfl, g2, hA, hS⟩
        have hzz := g1.size
        have HN0 : Hid (NewSt At W.heap.size W w2 p m (Cf.kept m []) S (.slice none 0 0) (([] : Cf.Ens).map (·.1)) (.slice none 0 0) (([] : Cf.Ens).map (·.2))) := hid1
          ⟨by rw [Cf.kept_nil]; exact hA, fun k hk => by have := hS k hk; omega, below_then g1 g2, (below_then g1 g2).size, World.ownsRow_nil _ _ _ _, World.ownsRow_nil _ _ _ _, fun k hk => by simp [Value.ownBlock] at hk, fun k hk => by simp [Value.ownBlock] at hk, fun k hk => by simp [Value.ownBlock] at hk⟩
        clear HMk hA hS
        go_wp2
        go_loopw [8, 9, 10] (fun lv bv iv wr => ∃ (i : Nat) (A : Cf.Ens) (S : Nat → Prop), i ≤ l.length ∧ iv = .int .i64 i ∧ A.length ≤ i ∧ (∀ e ∈ A, e.1.length ≤ 100) ∧ NewSt At W.heap.size W wr p m (Cf.kept m A) S lv (A.map (·.1)) bv (A.map (·.2))) (fun _ _ iv _ => l.length - (intOf iv).toNat)
        case atStart => exact ⟨0, [], S, Nat.zero_le _, rfl, Nat.le_refl _, by simp, HN0.out⟩
        case round =>
          clear HN0 S
          obtain ⟨i, A, S, hil, rfl, hAl, hA100, hN⟩ := hrel
          have HN := hid1 hN
          have HA100 := hid1 hA100
          clear hN hA100
          have i0' : (0 : Int) ≤ (i : Int) := by omega
          by_cases hlt : i < l.length
          · have i1 : (i : Int) < (l.length : Int) := by omega
            obtain ⟨g, o, rfl, hg, hc⟩ := HI.out (by intro e; rw [e] at hlt; simp at hlt)
            obtain ⟨b0, b1, b2⟩ := hc i hlt
            have B := HN.out.below
            have d0 := cell_below' b0 B
            have d1 := cell_below' b1 B
            have d2 := cell_below' b2 B
            clear hc HI b0 b1 b2
            generalize l[i] = a at *
            obtain ⟨ap, ak, ab⟩ := a
            simp only at d0 d1 d2
            have gW : Below wr.heap.size wr (wr.alloc (.cells #[.bool ap, .string (ba ak), .string (ba ab)] 36)) := (Below.refl _ wr).alloc (Nat.le_refl _) _
            have hSl := HHC.out.lt S wr _ m _ HN.out.lies
            have hSn : ¬ S wr.heap.size := fun h => by have := hSl _ h; omega
            have HN3 := hid1 (HN.out.grown HHC.out gW)
            have hzb : wr.heap.size < (wr.alloc (.cells #[.bool ap, .string (ba ak), .string (ba ab)] 36)).heap.size := by simp
            clear HN hSl
            by_cases hkl : 100 < ak.length
            · have zk : (100 : Int) < (ak.length : Int) := by omega
              have G := HN3.out.below
              clear HN3
              go_wp2
              go_ret
              exact ⟨rfl, G⟩
            · have zk : (ak.length : Int) ≤ 100 := by omega
              by_cases hbl : 100 < ab.length
              · have zb : (100 : Int) < (ab.length : Int) := by omega
                have G := HN3.out.below
                clear HN3
                go_wp2
                go_ret
                exact ⟨rfl, G⟩
              · have zb : (ab.length : Int) ≤ 100 := by omega
                have HGet := hid1 (HHC.out.get S _ p m _ ak HN3.out.lies hm hm' (Cf.kept_ok m A) (by omega))
                go_wp2_with fail
                refine HGet.out.mono ?_
                rintro e w3 ⟨rfl, o3, S3, hA3, hS3⟩
                have k0 := o3.cell (a := ⟨wr.heap.size, 0, none⟩) (u := .bool ap) (by simp) hSn
                have k1 := o3.cell (a := ⟨wr.heap.size, 1, none⟩) (u := .string (ba ak)) (by simp) hSn
                have k2 := o3.cell (a := ⟨wr.heap.size, 2, none⟩) (u := .string (ba ab)) (by simp) hSn
                have hSn3 : ¬ S3 wr.heap.size := fun h => by
                  rcases hS3 _ h with h1 | h1
                  · exact hSn h1
                  · omega
                have HN3' := hid1 (HN3.out.acted o3 hA3 hS3)
                have hOk3 := (Cf.kept_ok m A).get ak
                clear HGet d0 d1 d2 HN3 o3 hA3 hS3
                cases ap with
                | true =>
                  have HPut := hid1 (HHC.out.put S3 _ p m _ ak ab HN3'.out.lies hm hm' hOk3 (by omega) (by omega))
                  rw [Cf.kept_get_put hm] at HPut
                  generalize (Cf.find (Cf.kept m A) ak).getD [] = fb at *
                  generalize (Cf.find (Cf.kept m A) ak).isSome = fi at *
                  go_wp2_with fail
                  refine HPut.out.mono ?_
                  rintro e w4 ⟨rfl, o4, S4, hA4, hS4⟩
                  have q1 := o4.cell (a := ⟨wr.heap.size, 1, none⟩) (u := .string (ba ak)) k1 hSn3
                  have q2 := o4.cell (a := ⟨wr.heap.size, 2, none⟩) (u := .string (ba ab)) k2 hSn3
                  have HN4 := hid1 (HN3'.out.acted o4 hA4 hS4)
                  clear HPut HN3' o4 hA4 hS4 k0 k1 k2
                  have hr4 := HN4.out.last
                  have hl1 : (A.map (·.1)).length ≤ 100 := by rw [List.length_map]; omega
                  have hl2 : (A.map (·.2)).length ≤ 100 := by rw [List.length_map]; omega
                  have hml1 : (A.map (·.1)).length + 1 ≤ maxLen := by unfold maxLen; omega
                  have hml2 : (A.map (·.2)).length + 1 ≤ maxLen := by unfold maxLen; omega
                  have hbz := HN4.out.size
                  have HPl := hid1 fun (w5 : World) (g5 cap5 : Nat) (hg : (w4.alloc (.cells #[.string (ba ak)] 9)).grownBy w5 u8.ownBlock) (ho : w5.ownsRow W.heap.size 9 1 (.slice (some ⟨g5, 0, none⟩) ((A.map (·.1)).length + 1) cap5) ((A.map (·.1)).length + 1) ((A.map (·.1)).map sv ++ [sv ak])) (hat : u8.ownBlock = some g5 ∨ g5 = (w4.alloc (.cells #[.string (ba ak)] 9)).heap.size) => HN4.out.pushl HHC.out (x := ak) ((Below.refl _ w4).alloc (Nat.le_refl _) _) hg ho hat
                  have HPb := hid1 fun (w5 w6 : World) (lv5 : Value) (L5 : List (List UInt8)) (h5 : NewSt At W.heap.size W w5 p m (Cf.kept m (A ++ [(ak, ab)])) S4 lv5 L5 u9 (A.map (·.2))) (g6 cap6 : Nat) (hg : (w5.alloc (.cells #[.string (ba ab)] 9)).grownBy w6 u9.ownBlock) (ho : w6.ownsRow W.heap.size 9 1 (.slice (some ⟨g6, 0, none⟩) ((A.map (·.2)).length + 1) cap6) ((A.map (·.2)).length + 1) ((A.map (·.2)).map sv ++ [sv ab])) (hat : u9.ownBlock = some g6 ∨ g6 = (w5.alloc (.cells #[.string (ba ab)] 9)).heap.size) => h5.pushb HHC.out (x := ab) ((Below.refl _ w5).alloc (Nat.le_refl _) _) hg ho hat
                  go_wp2_with (first
                    | (at_builtin; refine wpList_append_lies _ rfl _ _ 22 rfl W.heap.size 9 i0 (.string ⟨#[]⟩) 1 16 Tryd.underlying22 hi hz0 hz1 hz2 rfl (by decide) _ _ _ rfl (hr4.alloc _) ⟨w4.heap.size, 0, none⟩ 1 1 [.string (ba ak)] rfl rfl (cell_one_new _ _ _) (by simp [Value.oneCell']) (by decide) hml1 (by omega) (by simp; omega) _ rfl ?_; intro g5 cap5 w5 hown5 hgrow5 hat5 hlt5; (have h5 := HPl.out _ _ _ hgrow5 hown5 hat5); (have hr5 := h5.bytes); (have hz5 := h5.size); (have HN5 := hid1 h5); clear hown5 hgrow5 hat5 h5)
                    | (at_builtin; refine wpList_append_lies _ rfl _ _ 22 rfl W.heap.size 9 i0 (.string ⟨#[]⟩) 1 16 Tryd.underlying22 hi hz0 hz1 hz2 rfl (by decide) _ _ _ rfl (hr5.alloc _) ⟨w5.heap.size, 0, none⟩ 1 1 [.string (ba ab)] rfl rfl (cell_one_new _ _ _) (by simp [Value.oneCell']) (by decide) hml2 (by omega) (by simp; omega) _ rfl ?_; intro g6 cap6 w6 hown6 hgrow6 hat6 hlt6; (have HN6 := hid1 (HPb.out _ _ _ _ HN5.out _ _ hgrow6 hown6 hat6)); clear hown6 hgrow6 hat6)
                    | fail)
                  have HLn := hid1 (HHC.out.len S4 w6 p m _ HN6.out.lies hm hm' (Cf.kept_ok m _))
                  have hkl := (Cf.kept_ok m (A ++ [(ak, ab)])).few
                  have hkz : ((Cf.kept m (A ++ [(ak, ab)])).length : Int) ≤ (m : Int) := by omega
                  refine HLn.out.mono ?_
                  rintro e w7 ⟨rfl, g7⟩
                  have HN7 : Hid (NewSt At W.heap.size W w7 p m (Cf.kept m (A ++ [(ak, ab)])) S4 (.slice (some ⟨g5, 0, none⟩) ((A.map (·.1)).length + 1) cap5) ((A ++ [(ak, ab)]).map (·.1)) (.slice (some ⟨g6, 0, none⟩) ((A.map (·.2)).length + 1) cap6) ((A ++ [(ak, ab)]).map (·.2))) := hid1 (by
                    have := HN6.out.grown HHC.out g7
                    rw [List.map_append, List.map_append]
                    exact this)
                  have hA1 : (A ++ [(ak, ab)]).length ≤ i + 1 := by rw [List.length_append, List.length_singleton]; omega
                  clear HLn HN6 HN5 HPl HPb HN4 hr4 hr5
                  go_wp2
                  exact ⟨⟨i + 1, A ++ [(ak, ab)], S4, by omega, by go_num, hA1, (fun e he => by rcases List.mem_append.1 he with h | h; exact HA100.out e h; rw [List.mem_singleton.1 h]; show ak.length ≤ 100; omega), (by have h := HN7.out; simp only [List.length_map] at h; exact h)⟩, by simp [intOf]; omega⟩
                | false =>
                  cases hf : Cf.find (Cf.kept m A) ak with
                  | none =>
                    have HN4 : Hid (NewSt At W.heap.size W w3 p m (Cf.kept m A) S3 u8 (A.map (·.1)) u9 (A.map (·.2))) := hid1 (by
                      have := HN3'.out
                      rwa [Cf.get_none hf] at this)
                    clear HN3' hf
                    simp only [Option.getD_none, Option.isSome_none]
                    go_wp2
                    exact ⟨⟨i + 1, A, S3, by omega, by go_num, by omega, HA100.out, HN4.out⟩, by simp [intOf]; omega⟩
                  | some sb =>
                    have HN4 : Hid (NewSt At W.heap.size W w3 p m (Cf.kept m (A ++ [(ak, sb)])) S3 u8 (A.map (·.1)) u9 (A.map (·.2))) := hid1 (by
                      have := HN3'.out
                      rwa [Cf.kept_get hm A ak sb hf] at this)
                    clear HN3' hf
                    simp only [Option.getD_some, Option.isSome_some]
                    generalize hS4 : S3 = S4 at *
                    generalize hw4 : w3 = w4 at *
                    clear hS4 hw4
                    have hr4 := HN4.out.last
                    have hl1 : (A.map (·.1)).length ≤ 100 := by rw [List.length_map]; omega
                    have hl2 : (A.map (·.2)).length ≤ 100 := by rw [List.length_map]; omega
                    have hml1 : (A.map (·.1)).length + 1 ≤ maxLen := by unfold maxLen; omega
                    have hml2 : (A.map (·.2)).length + 1 ≤ maxLen := by unfold maxLen; omega
                    have hbz := HN4.out.size
                    have HPl := hid1 fun (w5 : World) (g5 cap5 : Nat) (hg : (w4.alloc (.cells #[.string (ba ak)] 9)).grownBy w5 u8.ownBlock) (ho : w5.ownsRow W.heap.size 9 1 (.slice (some ⟨g5, 0, none⟩) ((A.map (·.1)).length + 1) cap5) ((A.map (·.1)).length + 1) ((A.map (·.1)).map sv ++ [sv ak])) (hat : u8.ownBlock = some g5 ∨ g5 = (w4.alloc (.cells #[.string (ba ak)] 9)).heap.size) => HN4.out.pushl HHC.out (x := ak) ((Below.refl _ w4).alloc (Nat.le_refl _) _) hg ho hat
                    have HPb := hid1 fun (w5 w6 : World) (lv5 : Value) (L5 : List (List UInt8)) (h5 : NewSt At W.heap.size W w5 p m (Cf.kept m (A ++ [(ak, sb)])) S4 lv5 L5 u9 (A.map (·.2))) (g6 cap6 : Nat) (hg : (w5.alloc (.cells #[.string (ba sb)] 9)).grownBy w6 u9.ownBlock) (ho : w6.ownsRow W.heap.size 9 1 (.slice (some ⟨g6, 0, none⟩) ((A.map (·.2)).length + 1) cap6) ((A.map (·.2)).length + 1) ((A.map (·.2)).map sv ++ [sv sb])) (hat : u9.ownBlock = some g6 ∨ g6 = (w5.alloc (.cells #[.string (ba sb)] 9)).heap.size) => h5.pushb HHC.out (x := sb) ((Below.refl _ w5).alloc (Nat.le_refl _) _) hg ho hat
                    go_wp2_with (first
                      | (at_builtin; refine wpList_append_lies _ rfl _ _ 22 rfl W.heap.size 9 i0 (.string ⟨#[]⟩) 1 16 Tryd.underlying22 hi hz0 hz1 hz2 rfl (by decide) _ _ _ rfl (hr4.alloc _) ⟨w4.heap.size, 0, none⟩ 1 1 [.string (ba ak)] rfl rfl (cell_one_new _ _ _) (by simp [Value.oneCell']) (by decide) hml1 (by omega) (by simp; omega) _ rfl ?_; intro g5 cap5 w5 hown5 hgrow5 hat5 hlt5; (have h5 := HPl.out _ _ _ hgrow5 hown5 hat5); (have hr5 := h5.bytes); (have hz5 := h5.size); (have HN5 := hid1 h5); clear hown5 hgrow5 hat5 h5)
                      | (at_builtin; refine wpList_append_lies _ rfl _ _ 22 rfl W.heap.size 9 i0 (.string ⟨#[]⟩) 1 16 Tryd.underlying22 hi hz0 hz1 hz2 rfl (by decide) _ _ _ rfl (hr5.alloc _) ⟨w5.heap.size, 0, none⟩ 1 1 [.string (ba sb)] rfl rfl (cell_one_new _ _ _) (by simp [Value.oneCell']) (by decide) hml2 (by omega) (by simp; omega) _ rfl ?_; intro g6 cap6 w6 hown6 hgrow6 hat6 hlt6; (have HN6 := hid1 (HPb.out _ _ _ _ HN5.out _ _ hgrow6 hown6 hat6)); clear hown6 hgrow6 hat6)
                      | fail)
                    have HLn := hid1 (HHC.out.len S4 w6 p m _ HN6.out.lies hm hm' (Cf.kept_ok m _))
                    have hkl := (Cf.kept_ok m (A ++ [(ak, sb)])).few
                    have hkz : ((Cf.kept m (A ++ [(ak, sb)])).length : Int) ≤ (m : Int) := by omega
                    refine HLn.out.mono ?_
                    rintro e w7 ⟨rfl, g7⟩
                    have HN7 : Hid (NewSt At W.heap.size W w7 p m (Cf.kept m (A ++ [(ak, sb)])) S4 (.slice (some ⟨g5, 0, none⟩) ((A.map (·.1)).length + 1) cap5) ((A ++ [(ak, sb)]).map (·.1)) (.slice (some ⟨g6, 0, none⟩) ((A.map (·.2)).length + 1) cap6) ((A ++ [(ak, sb)]).map (·.2))) := hid1 (by
                      have := HN6.out.grown HHC.out g7
                      rw [List.map_append, List.map_append]
                      exact this)
                    have hA1 : (A ++ [(ak, sb)]).length ≤ i + 1 := by rw [List.length_append, List.length_singleton]; omega
                    clear HLn HN6 HN5 HPl HPb HN4 hr4 hr5
                    go_wp2
                    exact ⟨⟨i + 1, A ++ [(ak, sb)], S4, by omega, by go_num, hA1, (fun e he => by rcases List.mem_append.1 he with h | h; exact HA100.out e h; rw [List.mem_singleton.1 h]; show ak.length ≤ 100; omega), (by have h := HN7.out; simp only [List.length_map] at h; exact h)⟩, by simp [intOf]; omega⟩
          · have i1 : (l.length : Int) ≤ (i : Int) := by omega
            have HE0 := hid1 HN.out.turn
            have hAm : A.length ≤ 100 := by omega
            have hL1 : (A.map (·.1)).length = A.length := List.length_map _
            have hL2 : (A.map (·.2)).length = A.length := List.length_map _
            obtain ⟨pl, cpl, rfl, hinl⟩ := HE0.out.last
            obtain ⟨pb, cpb, rfl, hinb⟩ := HE0.out.bytes
            rw [hL1, hL2] at HE0
            clear hinl hinb
            clear HN HI
            generalize wr = w4 at *
            generalize hB3 : w4.heap.size = B3 at *
            clear hB3
            have zA : (A.length : Int) ≤ 100 := by omega
            have HNd : Hid (Cf.Ok m (Cf.kept m A)) := hid1 (Cf.kept_ok m A)
            rw [hL1, hL2]
            go_wp2
            go_loopw [14, 15] (fun nv iv wx => ∃ (j : Nat) (sn : List (List UInt8)) (cl : Cf.Ens) (S : Nat → Prop), j ≤ A.length ∧ iv = .int .i64 ((j : Int) - 1) ∧ sn.length + j ≤ A.length ∧ (∀ x, x ∈ Cf.keys (A.drop j) → x ∈ sn) ∧ Cf.Ok m cl ∧ cl.Perm (Cf.kept m A) ∧ EndSt At W.heap.size B3 W wx p m cl S (.slice pl A.length cpl) (A.map (·.1)) (.slice pb A.length cpb) (A.map (·.2)) nv sn) (fun _ iv _ => (intOf iv + 1).toNat)
            case atStart => exact ⟨A.length, [], Cf.kept m A, S, Nat.le_refl _, by go_num, by simp, by simp [Cf.keys], HNd.out, List.Perm.refl _, HE0.out⟩
            case round =>
              clear HE0 HNd S
              obtain ⟨j, sn, cl, S, hjA, rfl, hsn, hsee, hok, hperm, hE⟩ := hrel
              have HE := hid1 hE
              have HSee := hid1 hsee
              have HOk := hid1 hok
              have HPe := hid1 hperm
              clear hE hsee hok hperm
              obtain ⟨ps, cps, e14⟩ : ∃ p c, u14 = .slice p sn.length c := by
                rcases HE.out.seen.2 with ⟨h1, h2⟩ | ⟨g, c, _, h1, _⟩
                · exact ⟨none, 0, by rw [h1, h2]⟩
                · exact ⟨_, _, h1⟩
              subst e14
              have zs : (sn.length : Int) ≤ 100 := by omega
              cases j with
              | zero =>
                have G := HE.out.below
                clear HE HSee HOk HPe
                simp only [Int.ofNat_zero, Int.zero_sub]
                go_wp2
                go_ret
                exact ⟨rfl, G⟩
              | succ i =>
                rw [show ((i + 1 : Nat) : Int) - 1 = (i : Int) by omega]
                have ii0 : (0 : Int) ≤ (i : Int) := by omega
                by_cases hroom : sn.length < m
                · have zr : (sn.length : Int) < (m : Int) := by omega
                  have hiA : i < A.length := by omega
                  have iA : (i : Int) < (A.length : Int) := by omega
                  obtain ⟨pl', cpl', el, hinl⟩ := HE.out.last
                  obtain ⟨gl, ol, el2, -, -, hgl, hcl⟩ := hinl (by intro e; have := congrArg List.length e; simp at this; rw [this] at hiA; simp at hiA)
                  have hcl' := hcl i (by simpa using hiA)
                  obtain rfl : pl = some ⟨gl, ol, none⟩ := by
                    simp only [Value.slice.injEq] at el
                    rw [el.1, el2]
                  have d1 : wr.cell? ⟨gl, ol + i, none⟩ = some (.string (ba A[i].1)) := by rw [hcl']; simp
                  have HIx := hid1 (rIndex_calls (.slice ps sn.length cps) sn A[i].1 (XRow.of_owns HE.out.seen).irow (by omega))
                  have HLa := hid1 (Cf.kept_last (many := m) (A := A) (i := i) hiA (seen := sn) HSee.out)
                  clear el el2 hinl hcl hcl' hgl
                  have HDr : Hid (∀ x, x ∈ Cf.keys (A.drop i) → x = A[i].1 ∨ x ∈ Cf.keys (A.drop (i + 1))) := hid1 fun x hx => by
                    rw [List.drop_eq_getElem_cons hiA] at hx
                    unfold Cf.keys at hx ⊢
                    rw [List.map_cons, List.mem_cons] at hx
                    exact hx
                  have hkl : A[i].1.length ≤ 100 := HA100.out _ (List.getElem_mem hiA)
                  have HAi : Hid (A[i] = (A[i].1, A[i].2)) := hid1 rfl
                  generalize hkk : A[i].1 = ak at *
                  generalize hbb : A[i].2 = ab at *
                  go_wp2_with fail
                  refine HIx.out.mono ?_
                  rintro e w5 ⟨r, rfl, rfl, hix⟩
                  clear HIx
                  rcases hix with ⟨rfl, hni⟩ | ⟨q, rfl, hq, he, _⟩
                  · have hmem : (ak, ab) ∈ cl := HPe.out.mem_iff.2 (by rw [← HAi.out]; exact HLa.out hni hroom)
                    have hfind := Cf.find_mem HOk.out.once hmem
                    have hgp := (Cf.get_hit HOk.out hfind).2
                    have HPe2 := hid1 (hgp.trans HPe.out)
                    have HOk2 := hid1 (HOk.out.get ak)
                    have HSee2 : Hid (∀ x, x ∈ Cf.keys (A.drop i) → x ∈ sn ++ [ak]) := hid1 fun x hx => by
                      rcases HDr.out x hx with h1 | h1
                      · rw [h1]; exact List.mem_append_right _ (List.mem_singleton.2 rfl)
                      · exact List.mem_append_left _ (HSee.out x h1)
                    have hrs := HE.out.seen
                    have hml : sn.length + 1 ≤ maxLen := by unfold maxLen; omega
                    have hbz := HE.out.size
                    have HPu := hid1 fun (w6 : World) (g6 cap6 : Nat) (hg : (w5.alloc (.cells #[.string (ba ak)] 9)).grownBy w6 (Value.slice ps sn.length cps).ownBlock) (ho : w6.ownsRow B3 9 1 (.slice (some ⟨g6, 0, none⟩) (sn.length + 1) cap6) (sn.length + 1) (sn.map sv ++ [sv ak])) (hat : (Value.slice ps sn.length cps).ownBlock = some g6 ∨ g6 = (w5.alloc (.cells #[.string (ba ak)] 9)).heap.size) => HE.out.push HHC.out (x := ak) ((Below.refl _ w5).alloc (Nat.le_refl _) _) hg ho hat
                    have HLaC : Hid (∀ (w6 : World) (nv6 : Value) (sn6 : List (List UInt8)), EndSt At W.heap.size B3 W w6 p m cl S (.slice (some ⟨gl, ol, none⟩) A.length cpl) (A.map (·.1)) (.slice pb A.length cpb) (A.map (·.2)) nv6 sn6 → w6.cell? ⟨gl, ol + i, none⟩ = some (.string (ba ak))) := hid1 fun w6 nv6 sn6 h6 => by
                      obtain ⟨pl', cpl', el, hinl⟩ := h6.last
                      obtain ⟨gl', ol', el2, -, -, -, hcl⟩ := hinl (by intro e; have := congrArg List.length e; simp at this; rw [this] at hiA; simp at hiA)
                      obtain ⟨rfl, rfl⟩ : gl = gl' ∧ ol = ol' := by
                        rw [el2] at el
                        simp only [Value.slice.injEq, Option.some.injEq, Addr.mk.injEq] at el
                        exact ⟨el.1.1, el.1.2.1⟩
                      have := hcl i (by simpa using hiA)
                      rw [this]
                      simp [hkk]
                    clear hmem hgp HPe HSee HLa HDr hni
                    go_wp2_with (first
                      | (at_builtin; refine wpList_append_lies _ rfl _ _ 22 rfl B3 9 i0 (.string ⟨#[]⟩) 1 16 Tryd.underlying22 hi hz0 hz1 hz2 rfl (by decide) _ _ _ rfl (hrs.alloc _) ⟨w5.heap.size, 0, none⟩ 1 1 [.string (ba ak)] rfl rfl (cell_one_new _ _ _) (by simp [Value.oneCell']) (by decide) hml (by omega) (by simp; omega) _ rfl ?_; intro g6 cap6 w6 hown6 hgrow6 hat6 hlt6; (have h6 := HPu.out _ _ _ hgrow6 hown6 hat6); (have d6 := HLaC.out _ _ _ h6); (have HE6 := hid1 h6); clear hown6 hgrow6 hat6 h6)
                      | fail)
                    have HGet := hid1 (HHC.out.get S w6 p m cl ak HE6.out.lies hm hm' HOk.out (by omega))
                    rw [hfind] at HGet
                    simp only [Option.getD_some, Option.isSome_some] at HGet
                    refine HGet.out.mono ?_
                    rintro e w7 ⟨rfl, o7, S7, hA7, hS7⟩
                    have HE7 := hid1 (HE6.out.acted o7 hA7 hS7)
                    obtain ⟨pb', cpb', eb, hinb⟩ := HE7.out.bytes
                    obtain ⟨gb, ob, eb2, -, -, -, hcb⟩ := hinb (by intro e; have := congrArg List.length e; simp at this; rw [this] at hiA; simp at hiA)
                    obtain rfl : pb = some ⟨gb, ob, none⟩ := by
                      simp only [Value.slice.injEq] at eb
                      rw [eb.1, eb2]
                    have d7 : w7.cell? ⟨gb, ob + i, none⟩ = some (.string (ba ab)) := by
                      have h1 := hcb i (by simpa using hiA)
                      rw [h1]
                      simp [hbb]
                    have hsn2 : (sn ++ [ak]).length + i ≤ A.length := by rw [List.length_append, List.length_singleton]; omega
                    clear HGet HE6 o7 hA7 hS7 hinb hcb eb eb2 HPu HLaC
                    go_wp2
                    exact ⟨⟨i, sn ++ [ak], _, S7, by omega, by go_num, hsn2, HSee2.out, HOk2.out, HPe2.out, HE7.out⟩, by simp [intOf]⟩
                  · have HSee2 : Hid (∀ x, x ∈ Cf.keys (A.drop i) → x ∈ sn) := hid1 fun x hx => by
                      rcases HDr.out x hx with h1 | h1
                      · rw [h1, ← he]; exact List.getElem_mem hq
                      · exact HSee.out x h1
                    have q0 : (0 : Int) ≤ (q : Int) := by omega
                    clear HSee HLa HDr he
                    go_wp2
                    exact ⟨⟨i, sn, cl, S, by omega, by go_num, by omega, HSee2.out, HOk.out, HPe.out, HE.out⟩, by simp [intOf]⟩
                · have zr : (m : Int) ≤ (sn.length : Int) := by omega
                  have G := HE.out.below
                  clear HE HSee HOk HPe
                  go_wp2
                  go_ret
                  exact ⟨rfl, G⟩
end Go.Proofs.YthokjegephlpmaaDoor
