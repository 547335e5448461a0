/- The law CacheKeys over what package cache's Key tells. -/
import Derived.Test.YthokjegephlpmaaDoorCacheK
import Derived.Test.YthokjegephlpmaaDoorSameA
namespace Go.Proofs.YthokjegephlpmaaDoor
open Go.RowKit Go.Shelf Go.Lib

set_option maxRecDepth 100000 in
set_option maxHeartbeats 16000000 in
theorem CacheKeys_calls {W : World} {es : Nat → Addr} {At : (Nat → Prop) → World → Value → Nat → Cf.Ens → Prop} (HC : Caches es At) (HKey : KeyTells W) (kind word other second : List UInt8) (v1 v2 : Value) (in1 in2 : List (List UInt8)) (h1 : XRow W v1 in1) (h2 : XRow W v2 in2) :
    Calls Tryd.prog 3 #[.string (ba kind), .string (ba word), v1, .string (ba other), .string (ba second), v2] W fun e w' => e = .returned (.bool true) ∧ Below W.heap.size W w' := by
  have HK := hid1 (cached_calls HC W)
  have HX1 := hid1 h1
  have HX2 := hid1 h2
  have HKy := hid1 HKey
  clear HC HKey
  obtain ⟨p1, cap1, rfl, -⟩ := h1
  obtain ⟨p2, cap2, rfl, -⟩ := h2
  by_cases l1 : 100 < kind.length
  · have z1 : (100 : Int) < (kind.length : Int) := by omega
    clear HX1 HX2 HKy
    go_enter Tryd.func3, Tryd.ntmps3
    go_wp2_with fail
    refine HK.out.mono ?_
    rintro e w1 ⟨rfl, g1⟩
    clear HK
    go_wp2
    go_ret
    exact ⟨rfl, g1⟩
  · by_cases l2 : 100 < word.length
    · have z1 : (kind.length : Int) ≤ 100 := by omega
      have z2 : (100 : Int) < (word.length : Int) := by omega
      clear HX1 HX2 HKy
      go_enter Tryd.func3, Tryd.ntmps3
      go_wp2_with fail
      refine HK.out.mono ?_
      rintro e w1 ⟨rfl, g1⟩
      clear HK
      go_wp2
      go_ret
      exact ⟨rfl, g1⟩
    · by_cases l3 : 100 < other.length
      · have z1 : (kind.length : Int) ≤ 100 := by omega
        have z2 : (word.length : Int) ≤ 100 := by omega
        have z3 : (100 : Int) < (other.length : Int) := by omega
        clear HX1 HX2 HKy
        go_enter Tryd.func3, Tryd.ntmps3
        go_wp2_with fail
        refine HK.out.mono ?_
        rintro e w1 ⟨rfl, g1⟩
        clear HK
        go_wp2
        go_ret
        exact ⟨rfl, g1⟩
      · by_cases l4 : 100 < second.length
        · have z1 : (kind.length : Int) ≤ 100 := by omega
          have z2 : (word.length : Int) ≤ 100 := by omega
          have z3 : (other.length : Int) ≤ 100 := by omega
          have z4 : (100 : Int) < (second.length : Int) := by omega
          clear HX1 HX2 HKy
          go_enter Tryd.func3, Tryd.ntmps3
          go_wp2_with fail
          refine HK.out.mono ?_
          rintro e w1 ⟨rfl, g1⟩
          clear HK
          go_wp2
          go_ret
          exact ⟨rfl, g1⟩
        · have z1 : (kind.length : Int) ≤ 100 := by omega
          have z2 : (word.length : Int) ≤ 100 := by omega
          have z3 : (other.length : Int) ≤ 100 := by omega
          have z4 : (second.length : Int) ≤ 100 := by omega
          have HL1 := hid1 fun (X : World) (g : Below W.heap.size W X) => LongTexts_any (.slice p1 in1.length cap1) in1 10 300 (by omega) (by omega) (HX1.out.below g).irow
          have HL2 := hid1 fun (X : World) (g : Below W.heap.size W X) => LongTexts_any (.slice p2 in2.length cap2) in2 10 300 (by omega) (by omega) (HX2.out.below g).irow
          go_enter Tryd.func3, Tryd.ntmps3
          go_wp2_with fail
          refine HK.out.mono ?_
          rintro e w1 ⟨rfl, g1⟩
          clear HK
          go_wp2_with fail
          refine (HL1.out _ g1).mono ?_
          rintro e w2 ⟨r1, rfl, rfl, hr1⟩
          go_wp2_with fail
          refine (HL2.out _ g1).mono ?_
          rintro e w3 ⟨r2, rfl, rfl, hr2⟩
          clear HL1 HL2
          rcases hr1 with rfl | ⟨rfl, n1, x1⟩
          · rcases hr2 with rfl | ⟨rfl, n2, x2⟩
            · go_wp2
              go_ret
              exact ⟨rfl, g1⟩
            · go_wp2
              go_ret
              exact ⟨rfl, g1⟩
          · rcases hr2 with rfl | ⟨rfl, n2, x2⟩
            · go_wp2
              go_ret
              exact ⟨rfl, g1⟩
            · have HQ1 := hid1 x1
              have HQ2 := hid1 x2
              have HO1 := hid1 (OwnTexts_x (w := w3) (.slice p1 in1.length cap1) in1 (HX1.out.below g1) (by omega))
              have HO2 := hid1 fun (X : World) (g : Below W.heap.size W X) => OwnTexts_x (w := X) (.slice p2 in2.length cap2) in2 (HX2.out.below g) (by omega)
              have HKO := hid1 fun (X : World) (g : Below W.heap.size W X) => KeyOf_calls kind word (.slice p1 in1.length cap1) in1 (HX1.out.below g).irow (by omega) (by omega) (by omega) HQ1.out
              have HSa := hid1 fun (X : World) (g : Below W.heap.size W X) => SameTexts_any (.slice p1 in1.length cap1) (.slice p2 in2.length cap2) in1 in2 (HX1.out.below g).irow (HX2.out.below g).irow (by omega) (by omega)
              have HK1 := hid1 fun (X : World) (g : Below W.heap.size W X) v (hx : XRow X v in1) => HKy.out X g kind word v in1 hx (by omega) (by omega) n1 HQ1.out
              have HK2 := hid1 fun (X : World) (g : Below W.heap.size W X) v (hx : XRow X v in2) => HKy.out X g other second v in2 hx (by omega) (by omega) n2 HQ2.out
              have HInj : Hid ((Kp.key kind word in1 == Kp.key other second in2) = ((kind == other) && (word == second) && decide (in1 = in2))) := hid1 (by
                rw [Bool.eq_iff_iff]
                simp [Kp.key_inj, and_assoc])
              generalize Kp.key kind word in1 = K1 at *
              generalize Kp.key other second in2 = K2 at *
              generalize decide (in1 = in2) = bs at *
              clear x1 x2 HQ1 HQ2 HX1 HX2 HKy
              go_wp2_with fail
              refine HO1.out.mono ?_
              rintro e w4 ⟨v4, rfl, hx4, -, g4⟩
              have G4 := below_then g1 g4
              clear HO1
              go_wp2_with fail
              refine (HK1.out _ G4 _ hx4).mono ?_
              rintro e w5 ⟨rfl, g5⟩
              have G5 := below_then G4 g5
              clear HK1 hx4 g4 g5
              go_wp2_with fail
              refine (HO2.out _ G5).mono ?_
              rintro e w6 ⟨v6, rfl, hx6, -, g6⟩
              have G6 := below_then G5 g6
              clear HO2
              go_wp2_with fail
              refine (HK2.out _ G6 _ hx6).mono ?_
              rintro e w7 ⟨rfl, g7⟩
              have G7 := below_then G6 g7
              clear HK2 hx6 g6 g7
              cases hb1 : kind == other with
              | false =>
                have hK : (K1 == K2) = false := by rw [HInj.out, hb1]; rfl
                clear HInj HSa
                go_wp2_with fail
                refine (HKO.out _ G7).mono ?_
                rintro e w8 ⟨rfl, g8⟩
                have G8 := below_then G7 g8
                clear HKO
                go_wp2
                go_ret
                exact ⟨rfl, G8⟩
              | true =>
                cases hb2 : word == second with
                | false =>
                  have hK : (K1 == K2) = false := by rw [HInj.out, hb1, hb2]; rfl
                  clear HInj HSa
                  go_wp2_with fail
                  refine (HKO.out _ G7).mono ?_
                  rintro e w8 ⟨rfl, g8⟩
                  have G8 := below_then G7 g8
                  clear HKO
                  go_wp2
                  go_ret
                  exact ⟨rfl, G8⟩
                | true =>
                  have hK : (K1 == K2) = bs := by rw [HInj.out, hb1, hb2]; rfl
                  clear HInj
                  go_wp2_with fail
                  refine (HSa.out _ G7).mono ?_
                  rintro e w8 ⟨rfl, q, rfl⟩
                  have G8 := below_draws G7 q
                  clear HSa
                  go_wp2_with fail
                  refine (HKO.out _ G8).mono ?_
                  rintro e w9 ⟨rfl, g9⟩
                  have G9 := below_then G8 g9
                  clear HKO
                  cases bs with
                  | true =>
                    go_wp2
                    go_ret
                    exact ⟨rfl, G9⟩
                  | false =>
                    go_wp2
                    go_ret
                    exact ⟨rfl, G9⟩
end Go.Proofs.YthokjegephlpmaaDoor
