/- The law CacheActs over what package cache does. -/
import Derived.Test.YthokjegephlpmaaDoorCacheC
import Derived.Test.YthokjegephlpmaaDoorSameT
namespace Go.Proofs.YthokjegephlpmaaDoor
open Go.RowKit Go.Shelf Go.Lib

/-- What a statement asks of a cache. -/
structure Ak where
  put : Bool
  key : List UInt8
  bytes : List UInt8
/-- A slice of asks that came in. -/
def AkRow (w : World) (v : Value) (l : List Ak) : Prop :=
  ∃ p cap, v = .slice p l.length cap ∧ (l ≠ [] → ∃ g o, p = some ⟨g, o, none⟩ ∧ g < w.heap.size ∧ ∀ j (hj : j < l.length), w.cell? ⟨g, o + j * 3, none⟩ = some (.bool l[j].put) ∧ w.cell? ⟨g, o + j * 3 + 1, none⟩ = some (.string (ba l[j].key)) ∧ w.cell? ⟨g, o + j * 3 + 2, none⟩ = some (.string (ba l[j].bytes)))

/-- Both caches, apart from each other, from B on. -/
structure Two (At : (Nat → Prop) → World → Value → Nat → Cf.Ens → Prop) (B : Nat) (W : World) (p : Addr) (mb m : Nat) (l : Cf.Ens) (S T : Nat → Prop) : Prop where
  a : At S W (.pointer (some p)) m l
  b : MAt T W (.pointer (some ⟨mb, 0, none⟩)) m l
  apart : ∀ k, S k → ¬ T k
  low : ∀ k, S k → B ≤ k
  low2 : ∀ k, T k → B ≤ k
  ok : Cf.Ok m l
theorem Two.below {es : Nat → Addr} {At : (Nat → Prop) → World → Value → Nat → Cf.Ens → Prop} (HC : Caches es At) {B : Nat} {W W' : World} {p : Addr} {mb m : Nat} {l : Cf.Ens} {S T : Nat → Prop} (h : Two At B W p mb m l S T) (hb : Below W.heap.size W W') : Two At B W' p mb m l S T :=
  ⟨HC.same S W W' _ m l h.a hb.size fun k hk => hb.block k (HC.lt S W _ m l h.a k hk), h.b.below hb, h.apart, h.low, h.low2, h.ok⟩
/-- Behind an act on the program's cache, and the same act on the document's. -/
theorem Two.acted {es : Nat → Addr} {At : (Nat → Prop) → World → Value → Nat → Cf.Ens → Prop} (HC : Caches es At) {B : Nat} {W0 W w1 w2 : World} {p : Addr} {mb m : Nat} {l l' : Cf.Ens} {S T S' T' : Nat → Prop} (h : Two At B W p mb m l S T) (hB : Below B W0 W) (hz : B ≤ W.heap.size) (hok : Cf.Ok m l')
    (o1 : Only S W w1) (a1 : At S' w1 (.pointer (some p)) m l') (s1 : ∀ j, S' j → S j ∨ W.heap.size ≤ j) (o2 : Only T w1 w2) (a2 : MAt T' w2 (.pointer (some ⟨mb, 0, none⟩)) m l') (s2 : ∀ j, T' j → T j ∨ w1.heap.size ≤ j) :
    Two At B w2 p mb m l' S' T' ∧ Below B W0 w2 ∧ B ≤ w2.heap.size := by
  obtain ⟨g1, z1, t1⟩ := Only.step hB hz h.low o1 s1
  obtain ⟨g2, z2, t2⟩ := Only.step g1 z1 h.low2 o2 s2
  have hTl := h.b.lt
  have hap : ∀ k, S' k → ¬ T k := fun k hk hT => by
    rcases s1 k hk with h1 | h1
    · exact h.apart k h1 hT
    · have := hTl k hT; omega
  have hSl := HC.lt S' w1 _ m l' a1
  refine ⟨⟨HC.same S' w1 w2 _ m l' a1 o2.size fun k hk => o2.block k (hSl k hk) (hap k hk), a2, fun k hk hT => ?_, t1, t2, hok⟩, g2, z2⟩
  rcases s2 k hT with h1 | h1
  · exact hap k hk h1
  · have := hSl k hk; omega
/-- The model's act in the memory that the program's act left. -/
theorem Two.model {At : (Nat → Prop) → World → Value → Nat → Cf.Ens → Prop} {B : Nat} {W w1 : World} {p : Addr} {mb m : Nat} {l : Cf.Ens} {S T : Nat → Prop} (h : Two At B W p mb m l S T) (o1 : Only S W w1) : MAt T w1 (.pointer (some ⟨mb, 0, none⟩)) m l :=
  h.b.same o1.size fun k hk => o1.block k (h.b.lt k hk) fun hs => h.apart k hs hk

theorem MAt.new (W : World) (m : Nat) : MAt (fun k => k = W.heap.size) (W.alloc (.cells #[.int .i64 m, .slice none 0 0] 47)) (.pointer (some ⟨W.heap.size, 0, none⟩)) m [] := by
  refine ⟨⟨W.heap.size, .slice none 0 0, rfl, rfl, by simp, by simp, by simp, none, 0, rfl, Nat.le_refl _, fun h => absurd rfl h⟩, fun k hk => by subst hk; simp⟩

set_option maxRecDepth 100000 in
set_option maxHeartbeats 16000000 in
theorem CacheActs_calls {W : World} {es : Nat → Addr} {At : (Nat → Prop) → World → Value → Nat → Cf.Ens → Prop} (hE : E12 W es) (HC : Caches es At) (many : Int) (hm1 : -9223372036854775808 ≤ many) (hm2 : many ≤ 9223372036854775807) (v : Value) (l : List Ak) (hrow : AkRow W v l) :
    Calls Tryd.prog 5 #[.int .i64 many, v] W fun e w' => e = .returned (.bool true) ∧ Below W.heap.size W w' := by
  have HK := hid1 (cached_calls HC W)
  obtain ⟨pr, cap, rfl, hin⟩ := hrow
  have HI := hid1 hin
  have HHC := hid1 HC
  have HE := hid1 hE
  clear hin HC hE
  by_cases hbig : 100 < l.length
  · have z1 : (100 : Int) < (l.length : Int) := by omega
    clear HI HHC HE
    go_enter Tryd.func5, Tryd.ntmps5
    go_wp2_with fail
    refine HK.out.mono ?_
    rintro e w1 ⟨rfl, g1⟩
    clear HK
    go_wp2
    go_ret
    exact ⟨rfl, g1⟩
  · have z1 : (l.length : Int) ≤ 100 := by omega
    by_cases hr : many < 1 ∨ 100 < many
    · have HNo := hid1 fun (X : World) (g : Below W.heap.size W X) => HHC.out.no X many hm1 hm2 hr (cell_below' HE.out.c1 g)
      have HCo := hid1 fun (X : World) (g : Below W.heap.size W X) => coded_er 2 (.inr ⟨1, by omega, rfl⟩) es X (HE.out.below g)
      simp only [erOf] at HNo HCo
      clear HI HHC HE hbig
      by_cases hlo : many < 1
      · clear hr
        go_enter Tryd.func5, Tryd.ntmps5
        go_wp2_with fail
        refine HK.out.mono ?_
        rintro e w1 ⟨rfl, g1⟩
        clear HK
        go_wp2_with fail
        refine (HNo.out w1 g1).mono ?_
        rintro e w2 ⟨rfl, g2⟩
        have g3 := below_then g1 g2
        go_wp2_with fail
        refine (HCo.out w2 g3).mono ?_
        rintro e w3 ⟨rfl, g4⟩
        have g5 := below_then g3 g4
        clear HNo HCo
        go_wp2
        go_ret
        exact ⟨rfl, g5⟩
      · have hhi : 100 < many := by omega
        have hlo' : 1 ≤ many := by omega
        clear hr
        go_enter Tryd.func5, Tryd.ntmps5
        go_wp2_with fail
        refine HK.out.mono ?_
        rintro e w1 ⟨rfl, g1⟩
        clear HK
        go_wp2_with fail
        refine (HNo.out w1 g1).mono ?_
        rintro e w2 ⟨rfl, g2⟩
        have g3 := below_then g1 g2
        go_wp2_with fail
        refine (HCo.out w2 g3).mono ?_
        rintro e w3 ⟨rfl, g4⟩
        have g5 := below_then g3 g4
        clear HNo HCo
        go_wp2
        go_ret
        exact ⟨rfl, g5⟩
    · obtain ⟨m, rfl⟩ : ∃ m : Nat, many = m := ⟨many.toNat, by omega⟩
      have hm : 1 ≤ m := by omega
      have hm' : m ≤ 100 := by omega
      have y1 : (1 : Int) ≤ (m : Int) := by omega
      have y2 : (m : Int) ≤ 100 := by omega
      have HMk := hid1 fun X => HHC.out.make X m hm hm'
      clear hr hbig HE
      go_enter Tryd.func5, Tryd.ntmps5
      go_wp2_with fail
      refine HK.out.mono ?_
      rintro e w1 ⟨rfl, g1⟩
      clear HK
      go_wp2_with fail
      refine (HMk.out w1).mono ?_
      rintro e w2 ⟨p, S, rfl, g2, hA, hS⟩
      have hSl := HHC.out.lt S w2 _ m [] hA
      have hz1 := g1.size
      have hz2 := g2.size
      have gA : Below w2.heap.size w2 (w2.alloc (.cells #[.int .i64 m, .slice none 0 0] 47)) := (Below.refl _ w2).alloc (Nat.le_refl _) _
      have HT0 : Hid (Two At W.heap.size (w2.alloc (.cells #[.int .i64 m, .slice none 0 0] 47)) p w2.heap.size m [] S (fun k => k = w2.heap.size)) := hid1
        ⟨HHC.out.same S w2 _ _ m [] hA gA.size fun k hk => gA.block k (hSl k hk), MAt.new w2 m, fun k hk e => by have := hSl k hk; omega, fun k hk => by have := hS k hk; omega, fun k hk => by omega, Cf.Ok.nil m⟩
      have HB0 := hid1 (below_then (below_then g1 g2) gA)
      clear HMk hA gA
      go_wp2
      go_loopw [9] (fun iv wr => ∃ (i : Nat) (cl : Cf.Ens) (S T : Nat → Prop), i ≤ l.length ∧ iv = .int .i64 i ∧ Two At W.heap.size wr p w2.heap.size m cl S T ∧ Below W.heap.size W wr ∧ W.heap.size ≤ wr.heap.size) (fun iv _ => l.length - (intOf iv).toNat)
      case atStart => exact ⟨0, [], _, _, Nat.zero_le _, rfl, HT0.out, HB0.out, HB0.out.size⟩
      case round =>
        clear HT0 HB0 hS hSl S
        obtain ⟨i, cl, S, T, hi, rfl, hT, B, hz⟩ := hrel
        have HT := hid1 hT
        clear hT
        have i0 : (0 : Int) ≤ (i : Int) := by omega
        by_cases hlt : i < l.length
        · have i1 : (i : Int) < (l.length : Int) := by omega
          obtain ⟨g, o, rfl, hg, hc⟩ := HI.out (by intro e; rw [e] at hlt; simp at hlt)
          obtain ⟨b0, b1, b2⟩ := hc i hlt
          have d0 := cell_below' b0 B
          have d1 := cell_below' b1 B
          have d2 := cell_below' b2 B
          have hLen : ∀ x ∈ l, True := fun _ _ => trivial
          clear hc HI b0 b1 b2 hLen
          generalize l[i] = a at *
          have gW : Below wr.heap.size wr (wr.alloc (.cells #[.bool a.put, .string (ba a.key), .string (ba a.bytes)] 36)) := (Below.refl _ wr).alloc (Nat.le_refl _) _
          have hSl := HHC.out.lt S wr _ m cl HT.out.a
          have hSn : ¬ S wr.heap.size := fun h => by have := hSl _ h; omega
          have hT1 := HT.out.below HHC.out gW
          have B1 := below_then B gW
          have hz' : W.heap.size ≤ (wr.alloc (.cells #[.bool a.put, .string (ba a.key), .string (ba a.bytes)] 36)).heap.size := Nat.le_trans hz gW.size
          have HT1 := hid1 hT1
          clear hT1 HT hSl
          by_cases hkl : 100 < a.key.length
          · have zk : (100 : Int) < (a.key.length : Int) := by omega
            clear HT1
            go_wp2
            go_ret
            exact ⟨rfl, B1⟩
          · have zk : (a.key.length : Int) ≤ 100 := by omega
            by_cases hbl : 100 < a.bytes.length
            · have zb : (100 : Int) < (a.bytes.length : Int) := by omega
              clear HT1
              go_wp2
              go_ret
              exact ⟨rfl, B1⟩
            · have zb : (a.bytes.length : Int) ≤ 100 := by omega
              have hcl : cl.length ≤ 100 := by have := HT1.out.ok.few; omega
              have HPut := hid1 (HHC.out.put S _ p m cl a.key a.bytes HT1.out.a hm hm' HT1.out.ok (by omega) (by omega))
              have HGet := hid1 (HHC.out.get S _ p m cl a.key HT1.out.a hm hm' HT1.out.ok (by omega))
              obtain ⟨ap, ak, ab⟩ := a
              simp only at *
              cases ap with
              | true =>
                clear HGet
                go_wp2_with fail
                refine HPut.out.mono ?_
                rintro e w3 ⟨rfl, o3, S3, hA3, hS3⟩
                have HMp := hid1 (mPut_calls (HT1.out.model o3) hm (by omega) (by omega) ak ab)
                have k1 := o3.cell (a := ⟨wr.heap.size, 1, none⟩) (u := .string (ba ak)) (by simp) hSn
                have k2 := o3.cell (a := ⟨wr.heap.size, 2, none⟩) (u := .string (ba ab)) (by simp) hSn
                clear HPut
                go_wp2_with fail
                refine HMp.out.mono ?_
                rintro e w4 ⟨rfl, o4, T4, hM4, hT4⟩
                obtain ⟨hTw, B4, z4⟩ := HT1.out.acted HHC.out B1 hz' (HT1.out.ok.put ak ab) o3 hA3 hS3 o4 hM4 hT4
                have HT4 := hid1 hTw
                clear HMp HT1 o3 hA3 hS3 o4 hM4 hT4 hTw k1 k2 d0 d1 d2
                have hcl9 : (Cf.put m cl ak ab).length ≤ 100 := by have := HT4.out.ok.few; omega
                have HKc := hid1 fun (X : World) (g : Below w4.heap.size w4 X) => HHC.out.keys S3 X p m (Cf.put m cl ak ab) (HT4.out.below HHC.out g).a hm hm' HT4.out.ok
                have HKm := hid1 fun (X : World) (g : Below w4.heap.size w4 X) => mKeys_calls (HT4.out.below HHC.out g).b (by omega)
                have HLn := hid1 fun (X : World) (g : Below w4.heap.size w4 X) => HHC.out.len S3 X p m (Cf.put m cl ak ab) (HT4.out.below HHC.out g).a hm hm' HT4.out.ok
                obtain ⟨mb9, u9, em9, -, -, c19, -, p9, cap9, rfl, -, -⟩ := HT4.out.b.lies
                obtain rfl : w2.heap.size = mb9 := by
                  simp only [Value.pointer.injEq, Option.some.injEq, Addr.mk.injEq] at em9
                  exact em9.1
                have hkl9 : (Cf.keys (Cf.put m cl ak ab)).length ≤ 1000 := by unfold Cf.keys; rw [List.length_map]; omega
                clear em9
                have HOk := hid1 HT4.out.ok
                generalize hQ9 : (Cf.put m cl ak ab) = cl9 at *
                clear hQ9
                have gB0 : Below w4.heap.size w4 w4.drew := (Below.refl _ w4).drew
                go_wp2
                go_region_held3 (fun w' => w'.cell? ⟨w2.heap.size, 1, none⟩ = some (.slice p9 cl9.length cap9)) (first | go_keep | fail)
                  (first
                    | (go_at_call 20; refine (HKc.out _ gB0).mono ?_; rintro e wa ⟨ua, rfl, hra, ga⟩; have gA := below_then gB0 ga; have ca := cell_below' c19 gA)
                    | (go_at_call 21; refine (HKm.out _ gA).mono ?_; rintro e wb ⟨ub, rfl, hrb, gb⟩; have hrc := hra.below gb; have gC := below_then gA gb; have cb := cell_below' c19 gC)
                    | (go_at_call 21; refine (HKm.out _ gB0).mono ?_; rintro e wb ⟨ub, rfl, hrb, gb⟩; have gE := below_then gB0 gb; have cb := cell_below' c19 gE)
                    | (go_at_call 20; refine (HKc.out _ gE).mono ?_; rintro e wa ⟨ua, rfl, hrc, ga⟩; have hrb := hrb.below ga; have gC := below_then gE ga; have ca := cell_below' c19 gC)
                    | (go_at_call 10; refine (SameTexts_ir _ _ _ hrc hrb hkl9).mono ?_; rintro e wc ⟨rfl, q, rfl⟩; have gD := below_draws gC q; have cc := cell_below' c19 gD)
                    | (go_at_call 15; refine (HLn.out _ gD).mono ?_; rintro e wd ⟨rfl, gl⟩; have gF := below_then gD gl; have cd := cell_below' c19 gF)
                    | fail)
                all_goals
                  have HT9 := hid1 (HT4.out.below HHC.out gF)
                  have B9 := B4.trans (gF.mono z4)
                  have z9 := Nat.le_trans z4 gF.size
                  go_wp2
                  exact ⟨⟨i + 1, _, _, _, by omega, by go_num, HT9.out, B9, z9⟩, by simp [intOf]; omega⟩
              | false =>
                clear HPut
                go_wp2_with fail
                refine HGet.out.mono ?_
                rintro e w3 ⟨rfl, o3, S3, hA3, hS3⟩
                have HMp := hid1 (mGet_calls (HT1.out.model o3) hm (by omega) (by omega) ak)
                have k1 := o3.cell (a := ⟨wr.heap.size, 1, none⟩) (u := .string (ba ak)) (by simp) hSn
                clear HGet
                go_wp2_with fail
                refine HMp.out.mono ?_
                rintro e w4 ⟨rfl, o4, T4, hM4, hT4⟩
                obtain ⟨hTw, B4, z4⟩ := HT1.out.acted HHC.out B1 hz' (HT1.out.ok.get ak) o3 hA3 hS3 o4 hM4 hT4
                have HT4 := hid1 hTw
                clear HMp HT1 o3 hA3 hS3 o4 hM4 hT4 hTw k1 d0 d1 d2
                generalize (Cf.find cl ak).getD [] = fb at *
                generalize (Cf.find cl ak).isSome = fi at *
                have hcl9 : (Cf.get m cl ak).length ≤ 100 := by have := HT4.out.ok.few; omega
                have HKc := hid1 fun (X : World) (g : Below w4.heap.size w4 X) => HHC.out.keys S3 X p m (Cf.get m cl ak) (HT4.out.below HHC.out g).a hm hm' HT4.out.ok
                have HKm := hid1 fun (X : World) (g : Below w4.heap.size w4 X) => mKeys_calls (HT4.out.below HHC.out g).b (by omega)
                have HLn := hid1 fun (X : World) (g : Below w4.heap.size w4 X) => HHC.out.len S3 X p m (Cf.get m cl ak) (HT4.out.below HHC.out g).a hm hm' HT4.out.ok
                obtain ⟨mb9, u9, em9, -, -, c19, -, p9, cap9, rfl, -, -⟩ := HT4.out.b.lies
                obtain rfl : w2.heap.size = mb9 := by
                  simp only [Value.pointer.injEq, Option.some.injEq, Addr.mk.injEq] at em9
                  exact em9.1
                have hkl9 : (Cf.keys (Cf.get m cl ak)).length ≤ 1000 := by unfold Cf.keys; rw [List.length_map]; omega
                clear em9
                have HOk := hid1 HT4.out.ok
                generalize hQ9 : (Cf.get m cl ak) = cl9 at *
                clear hQ9
                have gB0 : Below w4.heap.size w4 w4.drew := (Below.refl _ w4).drew
                go_wp2
                go_region_held3 (fun w' => w'.cell? ⟨w2.heap.size, 1, none⟩ = some (.slice p9 cl9.length cap9)) (first | go_keep | fail)
                  (first
                    | (go_at_call 20; refine (HKc.out _ gB0).mono ?_; rintro e wa ⟨ua, rfl, hra, ga⟩; have gA := below_then gB0 ga; have ca := cell_below' c19 gA)
                    | (go_at_call 21; refine (HKm.out _ gA).mono ?_; rintro e wb ⟨ub, rfl, hrb, gb⟩; have hrc := hra.below gb; have gC := below_then gA gb; have cb := cell_below' c19 gC)
                    | (go_at_call 21; refine (HKm.out _ gB0).mono ?_; rintro e wb ⟨ub, rfl, hrb, gb⟩; have gE := below_then gB0 gb; have cb := cell_below' c19 gE)
                    | (go_at_call 20; refine (HKc.out _ gE).mono ?_; rintro e wa ⟨ua, rfl, hrc, ga⟩; have hrb := hrb.below ga; have gC := below_then gE ga; have ca := cell_below' c19 gC)
                    | (go_at_call 10; refine (SameTexts_ir _ _ _ hrc hrb hkl9).mono ?_; rintro e wc ⟨rfl, q, rfl⟩; have gD := below_draws gC q; have cc := cell_below' c19 gD)
                    | (go_at_call 15; refine (HLn.out _ gD).mono ?_; rintro e wd ⟨rfl, gl⟩; have gF := below_then gD gl; have cd := cell_below' c19 gF)
                    | fail)
                all_goals
                  have HT9 := hid1 (HT4.out.below HHC.out gF)
                  have B9 := B4.trans (gF.mono z4)
                  have z9 := Nat.le_trans z4 gF.size
                  go_wp2
                  exact ⟨⟨i + 1, _, _, _, by omega, by go_num, HT9.out, B9, z9⟩, by simp [intOf]; omega⟩
        · have i1 : (l.length : Int) ≤ (i : Int) := by omega
          clear HI HT
          go_wp2
          go_ret
          exact ⟨rfl, B⟩
end Go.Proofs.YthokjegephlpmaaDoor
