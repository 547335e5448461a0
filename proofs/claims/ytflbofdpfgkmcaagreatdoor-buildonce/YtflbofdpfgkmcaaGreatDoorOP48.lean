import Derived.Test.YtflbofdpfgkmcaaGreatDoorOP46
import Derived.Test.YtflbofdpfgkmcaaGreatDoorOP44
import Derived.Test.YtflbofdpfgkmcaaGreatDoorOP47
import Derived.Test.YtflbofdpfgkmcaaGreatDoorOP39
namespace Go.Proofs.YtflbofdpfgkmcaaGreatDoor
open Go.RowKit Go.Shelf Go.Lib Go.Maps
theorem NewTells.get {es : Nat → Addr} {BAt : (Nat → Prop) → World → Value → Value → Bf.Bd → Prop} {n : Nat} {cv : Value} {w : World} {bv ev : Value} (h : NewTells es BAt n Lb.fs Lb.l Lb.outs cv w bv ev) : ev = .nilIface ∧ ∃ p S, bv = .pointer (some p) ∧ BAt S w bv cv Lb.d ∧ ∀ k, S k → n ≤ k := by
  rcases h with ⟨_, ⟨h1, _⟩ | ⟨_, k, hk, h2, _⟩ | ⟨_, _, h3, _⟩⟩ | ⟨_, _, _, h4, ⟨p, h5⟩, S, h6, h7⟩
  · exact absurd Lb.fault0 h1
  · obtain rfl : k = 0 := by simp at hk; omega
    exact absurd rfl (h2 Lb.r (by simp))
  · have := Lb.order0
    rw [h3] at this
    cases this
  · rw [Lb.init0] at h6
    exact ⟨h4, p, S, h5, h6, h7⟩
theorem lb_rises : Tf.Rises Lb.fs := by
  unfold Tf.Rises
  simp
theorem lb_small : ∀ x ∈ Lb.l, x.Small := fun x hx => by
  obtain rfl := List.mem_singleton.1 hx
  exact ⟨by decide, by decide, by decide, by decide, fun y hy => by obtain rfl := List.mem_singleton.1 hy; decide⟩
theorem lb_x (w : World) : XRow (w.alloc (.cells #[.string ⟨#[98]⟩] 9)) (.slice (some ⟨w.heap.size, 0, none⟩) 1 1) Lb.outs :=
  ⟨_, _, rfl, Nat.le_refl _, (fun e => by cases e), fun _ => ⟨_, _, rfl, by simp, fun j hj => by
    obtain rfl : j = 0 := by simp at hj; omega
    exact cell_of_row (j := 0) (row_new w (.cells #[.string ⟨#[98]⟩] 9)) rfl⟩⟩
theorem lb_rows (w : World) :
    RRow (((w.alloc (.cells #[.string ⟨#[97]⟩] 9)).alloc (.cells #[.string ⟨#[98]⟩, .string ⟨#[117, 112, 112, 101, 114]⟩, .string ⟨#[]⟩, .slice (some ⟨w.heap.size, 0, none⟩) 1 1] 90)).alloc (.cells #[.string ⟨#[98]⟩] 9)) (.slice (some ⟨w.heap.size + 1, 0, none⟩) 1 1) Lb.l ∧
    XRow (((w.alloc (.cells #[.string ⟨#[97]⟩] 9)).alloc (.cells #[.string ⟨#[98]⟩, .string ⟨#[117, 112, 112, 101, 114]⟩, .string ⟨#[]⟩, .slice (some ⟨w.heap.size, 0, none⟩) 1 1] 90)).alloc (.cells #[.string ⟨#[98]⟩] 9)) (.slice (some ⟨w.heap.size + 2, 0, none⟩) 1 1) Lb.outs ∧
    Below w.heap.size w (((w.alloc (.cells #[.string ⟨#[97]⟩] 9)).alloc (.cells #[.string ⟨#[98]⟩, .string ⟨#[117, 112, 112, 101, 114]⟩, .string ⟨#[]⟩, .slice (some ⟨w.heap.size, 0, none⟩) 1 1] 90)).alloc (.cells #[.string ⟨#[98]⟩] 9)) := by
  obtain ⟨w1, h1⟩ : ∃ w1, w1 = w.alloc (.cells #[.string ⟨#[97]⟩] 9) := ⟨_, rfl⟩
  obtain ⟨w2, h2⟩ : ∃ w2, w2 = w1.alloc (.cells #[.string ⟨#[98]⟩, .string ⟨#[117, 112, 112, 101, 114]⟩, .string ⟨#[]⟩, .slice (some ⟨w.heap.size, 0, none⟩) 1 1] 90) := ⟨_, rfl⟩
  obtain ⟨w3, h3⟩ : ∃ w3, w3 = w2.alloc (.cells #[.string ⟨#[98]⟩] 9) := ⟨_, rfl⟩
  have z1 : w1.heap.size = w.heap.size + 1 := by rw [h1]; simp
  have z2 : w2.heap.size = w.heap.size + 2 := by rw [h2]; simp; omega
  have z3 : w3.heap.size = w.heap.size + 3 := by rw [h3]; simp; omega
  have b1 : Below w.heap.size w w1 := by rw [h1]; exact (Below.refl _ w).alloc (Nat.le_refl _) _
  have b2 : Below w1.heap.size w1 w2 := by rw [h2]; exact (Below.refl _ w1).alloc (Nat.le_refl _) _
  have b3 : Below w2.heap.size w2 w3 := by rw [h3]; exact (Below.refl _ w2).alloc (Nat.le_refl _) _
  have r1 : w1.heap[w.heap.size]? = some (.cells #[.string ⟨#[97]⟩] 9) := by rw [h1]; exact row_new _ _
  have r2 : w2.heap[w.heap.size + 1]? = some (.cells #[.string ⟨#[98]⟩, .string ⟨#[117, 112, 112, 101, 114]⟩, .string ⟨#[]⟩, .slice (some ⟨w.heap.size, 0, none⟩) 1 1] 90) := by rw [h2, ← z1]; exact row_new _ _
  have r3 : w3.heap[w.heap.size + 2]? = some (.cells #[.string ⟨#[98]⟩] 9) := by rw [h3, ← z2]; exact row_new _ _
  have s1 := row_below (row_below r1 b2) b3
  have s2 := row_below r2 b3
  rw [← h1, ← h2, ← h3]
  refine ⟨⟨_, _, rfl, Nat.le_refl _, (fun e => by cases e), fun _ => ⟨_, _, rfl, by omega, fun j hj => ?_⟩⟩, ⟨_, _, rfl, Nat.le_refl _, (fun e => by cases e), fun _ => ⟨_, _, rfl, by omega, fun j hj => ?_⟩⟩, below_then (below_then b1 b2) b3⟩
  · obtain rfl : j = 0 := by simp at hj; omega
    exact ⟨cell_of_row (j := 0) s2 rfl, cell_of_row (j := 1) s2 rfl, cell_of_row (j := 2) s2 rfl, _, cell_of_row (j := 3) s2 rfl, ⟨_, _, rfl, Nat.le_refl _, (fun e => by cases e), fun _ => ⟨_, _, rfl, by omega, fun j hj => by
      obtain rfl : j = 0 := by simp at hj; omega
      exact cell_of_row (j := 0) s1 rfl⟩⟩⟩
  · obtain rfl : j = 0 := by simp at hj; omega
    exact cell_of_row (j := 0) r3 rfl
set_option maxRecDepth 100000 in
set_option maxHeartbeats 16000000 in
theorem built_calls {es : Nat → Addr} {At : (Nat → Prop) → World → Value → Nat → Cf.Ens → Prop} {BAt : (Nat → Prop) → World → Value → Value → Bf.Bd → Prop} (HB : Builds es Af.actO At BAt) (HC : Caches0 es At) {W : World} (hW : BuildW W es) (hE : TErr W (erOf es)) :
    Calls Tryz.prog 53 #[] W fun e w' => e = .returned (.bool true) ∧ Below W.heap.size W w' := by
  have HBu := hid1 HB
  have HCa := hid1 HC
  have HW := hid1 (BuildB.of hW)
  have HE := hid1 hE
  have HT := hid1 (New_calls W)
  clear HB HC hW hE
  go_enter Tryz.func53, Tryz.ntmps53
  go_wp2_with fail
  refine HT.out.mono ?_
  rintro e w1 ⟨rfl, hT1, g1⟩
  have HMk := hid1 (HCa.out.make w1 3 (by omega) (by omega))
  have HT1 := hid1 hT1
  have hz1 := hT1.lt
  clear HT hT1
  go_wp2_with fail
  refine HMk.out.mono ?_
  rintro e w2 ⟨p, SC, rfl, g2, hA2, hS2⟩
  have hT2 := HT1.out.below g2
  have hp1 : pathB [97] = true := by rw [pathB_R]; decide
  have hcode : Tf.putCode pathB [] [97] [120] = 0 := by simp [Tf.putCode, hp1]; decide
  have hput : Tf.putF pathB [] [97] [120] = Lb.fs := by
    unfold Tf.putF
    rw [if_pos hcode]
    rfl
  have HP := PutK_calls hT2 (HE.out.below (below_then g1 g2)) (by simp) (by simp) [97] [120] (by simp)
  rw [hcode, hput, show erOf es 0 = Value.nilIface from rfl] at HP
  have HPt := hid1 HP
  have HA2 := hid1 (And.intro hA2 hS2)
  have hz2 := g2.size
  have G2 := below_then g1 g2
  clear HMk HT1 hT2 HP hA2 hS2 hp1 hcode hput
  go_wp2_with fail
  refine HPt.out.mono ?_
  rintro e w3 ⟨rfl, ⟨o3, -, hT3⟩, g3, k3⟩
  have hA3 : At SC w3 (.pointer (some p)) 3 [] := HCa.out.same _ _ _ _ _ _ HA2.out.1 k3.size fun k hk => k3.block k (HCa.out.lt _ _ _ _ _ HA2.out.1 k hk) fun hx => by
    have := HA2.out.2 k hk
    rcases hx with h1 | h1
    · omega
    · cases h1
  have HSCw : Hid (∀ k, SC k → W.heap.size < k ∧ k < w2.heap.size) := hid1 fun k hk => ⟨by have := HA2.out.2 k hk; omega, HCa.out.lt _ _ _ _ _ HA2.out.1 k hk⟩
  have hz3 := k3.size
  have G3 : Below W.heap.size W w3 := G2.trans g3
  obtain ⟨hR5, hX5, g5⟩ := lb_rows w3
  have HA3 := hid1 hA3
  have HT3 := hid1 hT3
  have HG3 := hid1 G3
  clear HPt HA2 hA3 hT3 g3 k3 G2 g1 g2 G3
  generalize hw5 : ((w3.alloc (.cells #[.string ⟨#[97]⟩] 9)).alloc (.cells #[.string ⟨#[98]⟩, .string ⟨#[117, 112, 112, 101, 114]⟩, .string ⟨#[]⟩, .slice (some ⟨w3.heap.size, 0, none⟩) 1 1] 90)).alloc (.cells #[.string ⟨#[98]⟩] 9) = w5 at *
  have HNw := hid1 (HBu.out.new w5 W.heap.size W.heap.size Lb.fs o3 _ Lb.l _ Lb.outs (.pointer (some p)) ((HW.out.trans HG3.out).below g5).w (HT3.out.below g5) lb_rises (by simp) (by simp) hR5 (by simp) lb_small hX5 (by simp) (by simp) ⟨_, rfl⟩)
  have HR5 := hid1 hR5
  have HG5 := hid1 g5
  clear hR5 hX5 g5
  go_wp2_with fail
  refine HNw.out.mono ?_
  rintro e w6 ⟨bv, ev, rfl, g6, hN6⟩
  obtain ⟨rfl, p1, S1, rfl, hB6, hS1⟩ := hN6.get
  have hz5 := HG5.out.size
  have hz6 := g6.size
  have HB6 := hid1 (And.intro hB6 hS1)
  have g7 : Below w6.heap.size w6 (w6.alloc (.cells #[.string ⟨#[98]⟩] 9)) := (Below.refl _ w6).alloc (Nat.le_refl _) _
  have hz7 : (w6.alloc (.cells #[.string ⟨#[98]⟩] 9)).heap.size = w6.heap.size + 1 := by simp
  have G56 := below_then HG5.out g6
  have G57 := below_then G56 g7
  have HNx := hid1 (HBu.out.new (w6.alloc (.cells #[.string ⟨#[98]⟩] 9)) W.heap.size W.heap.size Lb.fs o3 _ Lb.l _ Lb.outs (.pointer (some p)) ((HW.out.trans HG3.out).below G57).w (HT3.out.below G57) lb_rises (by simp) (by simp) (HR5.out.below (below_then g6 g7)) (by simp) lb_small (lb_x w6) (by simp) (by simp) ⟨_, rfl⟩)
  have HG7 := hid1 (And.intro G57 hz7)
  clear HNw hN6 hB6 hS1 g6 g7 G56 G57 hz7 HR5 hw5
  go_wp2_with fail
  refine HNx.out.mono ?_
  rintro e w8 ⟨bv2, ev2, rfl, g8, hN8⟩
  obtain ⟨rfl, p2, S2, rfl, hB8, hS2⟩ := hN8.get
  rw [HG7.out.2] at hS2
  have hz8 := g8.size
  rw [HG7.out.2] at hz8
  have G8 := below_then HG7.out.1 g8
  have hS1w : ∀ k, S1 k → w5.heap.size ≤ k ∧ k < w6.heap.size := fun k hk => ⟨HB6.out.2 k hk, HBu.out.lt _ _ _ _ _ HB6.out.1 k hk⟩
  have b68 : Below w6.heap.size w6 w8 := below_then ((Below.refl _ w6).alloc (Nat.le_refl _) (.cells #[.string ⟨#[98]⟩] 9)) g8
  have hX8 : BAt S1 w8 (.pointer (some p1)) (.pointer (some p)) Lb.d := HBu.out.same _ _ _ _ _ _ HB6.out.1 b68.size fun k hk => b68.block k (hS1w k hk).2
  have hC8 : CaAt At SC w8 (.pointer (some p)) (some (3, [])) := ⟨⟨p, rfl⟩, HCa.out.same _ _ _ _ _ _ HA3.out G8.size fun k hk => G8.block k (by have := (HSCw.out k hk).2; omega)⟩
  have hWB : BuildB W.heap.size w8 es := (HW.out.trans HG3.out).below G8
  have HRx := HBu.out.run W.heap.size S1 SC w8 p1 (.pointer (some p)) Lb.d (some (3, [])) 0 hX8 hC8 (fun j h1 h2 => by have := (hS1w j h1).1; have := (HSCw.out j h2).2; omega) hWB (fun j hj => by have := (hS1w j hj).1; have := HG3.out.size; omega) (fun j hj => Nat.le_of_lt (HSCw.out j hj).1) Lb.fault0 lb_small Lb.fit0 ⟨by omega, by omega, Cf.Ok.nil 3, by simp⟩ (by omega) (by omega)
  rw [Lb.run1] at HRx
  have HRx := hid1 HRx
  have HS1 := hid1 hS1w
  have HB8 := hid1 (And.intro hB8 hS2)
  have HWB := hid1 hWB
  have HGB := hid1 (below_then HG3.out G8)
  clear HNx HB6 HG7 hN8 hB8 hS2 hX8 hC8 b68 hS1w hWB g8 HA3
  go_wp2_with fail
  refine HRx.out.mono ?_
  rintro e w9 ⟨rfl, hO9, S1', SC', hX9, hC9, hd9, hS9, hSC9⟩
  have hz9 := hO9.size
  have hfar : ∀ j, S2 j → ¬ (S1 j ∨ SC j) := fun j hj hx => by
    have h1 := HB8.out.2 j hj
    rcases hx with h2 | h2
    · have := (HS1.out j h2).2
      omega
    · have := (HSCw.out j h2).2
      omega
  have hY9 : BAt S2 w9 (.pointer (some p2)) (.pointer (some p)) Lb.d := HBu.out.same _ _ _ _ _ _ HB8.out.1 hz9 fun k hk => hO9.block k (HBu.out.lt _ _ _ _ _ HB8.out.1 k hk) (hfar k hk)
  have hlow : ∀ j, (S1 j ∨ SC j) → W.heap.size ≤ j := fun j hx => by
    rcases hx with h2 | h2
    · have := (HS1.out j h2).1
      have := HG3.out.size
      omega
    · exact Nat.le_of_lt (HSCw.out j h2).1
  have hfit := Bf.run_fit actFit (c := some (3, [])) (d := Lb.d) ⟨by omega, by omega, Cf.Ok.nil 3, by simp⟩ Lb.fit0 0
  rw [Lb.run1] at hfit
  have HRy := HBu.out.run W.heap.size S2 SC' w9 p2 (.pointer (some p)) Lb.d (some (3, [(Lb.key, [88])])) 0 hY9 hC9 (fun j h1 h2 => by
    have h3 := HB8.out.2 j h1
    rcases hSC9 j h2 with h4 | h4
    · have := (HSCw.out j h4).2
      omega
    · have := HBu.out.lt _ _ _ _ _ HB8.out.1 j h1
      omega) (HWB.out.only hO9 hlow) (fun j hj => by have := HB8.out.2 j hj; have := HG3.out.size; omega) (fun j hj => by
    rcases hSC9 j hj with h4 | h4
    · exact Nat.le_of_lt (HSCw.out j h4).1
    · have := HGB.out.size
      omega) Lb.fault0 lb_small Lb.fit0 hfit.2 (by omega) (by omega)
  rw [Lb.run2] at HRy
  have HRy := hid1 HRy
  have HG9 := hid1 (HGB.out.trans (hO9.below hlow HGB.out.size))
  have HL2 : Hid (∀ j, S2 j ∨ SC' j → W.heap.size ≤ j) := hid1 fun j hx => by
    rcases hx with h2 | h2
    · have := HB8.out.2 j h2
      have := HG3.out.size
      omega
    · rcases hSC9 j h2 with h4 | h4
      · exact Nat.le_of_lt (HSCw.out j h4).1
      · have := HGB.out.size
        omega
  clear HRx hX9 hC9 hd9 hS9 hSC9 hY9 hfit hfar hlow
  go_wp2_with fail
  refine HRy.out.mono ?_
  rintro e w10 ⟨rfl, hO10, S2', SC'', hY10, -, -, -, -⟩
  have G10 := HG9.out.trans (hO10.below HL2.out HG9.out.size)
  have HRs := HBu.out.result S2' w10 p2 _ _ 0 hY10 (by decide) (by omega) (by omega)
  have HOv := hid1 fun V (g : Below w10.heap.size w10 V) => HBu.out.over S2' V p2 _ _ (HBu.out.same _ _ _ _ _ _ hY10 g.size fun k hk => g.block k (HBu.out.lt _ _ _ _ _ hY10 k hk)) (by decide)
  have e1 : ((Lb.d.set 0 (.done [88] true)).at 0) = .done [88] true := rfl
  have e2 : ((Lb.d.set 0 (.done [88] true)).waits == 0) = true := by decide
  rw [e1] at HRs
  rw [e2] at HOv
  have HRs := hid1 HRs
  have HG10 := hid1 G10
  clear HRy hO10 hY10 e1 e2 G10 HBu HCa HW HE
  go_wp2_with fail
  refine HRs.out.mono ?_
  rintro e w11 ⟨rfl, g11⟩
  have HO11 := hid1 (HOv.out w11 g11)
  have G11 := below_then HG10.out g11
  clear HRs HOv
  have hz0 : erOf es 0 = Value.nilIface := rfl
  have hq0 : (Bf.St.done [88] true).isDone = true := rfl
  have hq1 : (Bf.St.done [88] true).out = [88] := rfl
  rw [hz0, hq0, hq1]
  clear hz0 hq0 hq1
  go_wp2_with fail
  refine HO11.out.mono ?_
  rintro e w12 ⟨rfl, g12⟩
  have G12 := below_then G11 g12
  clear HO11
  go_wp2
  go_ret
  exact ⟨rfl, G12⟩
end Go.Proofs.YtflbofdpfgkmcaaGreatDoor
