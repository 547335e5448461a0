import Derived.Test.YthchjnopgagilaaGreatDoorPA45
namespace Go.Proofs.YthchjnopgagilaaGreatDoor
open Go.RowKit Go.Shelf Go.Lib
variable {es : Nat → Addr} {At : (Nat → Prop) → World → Value → Nat → Cf.Ens → Prop} {BAt : (Nat → Prop) → World → Value → Value → Bf.Bd → Prop}
theorem make_fine (HC : Caches0 es At) (HB : Builds es Af.actO At BAt) {B : Nat} {V : World} {yb : Nat} {L : YL} {y : Bf.Yd} {l : List Ru} {m : Nat} (h : YdAt At B V yb L y) (hY : YBase B V es) (hf : Bf.YFine l m y) (hk : SheetOk l) :
  Calls Tryz.prog 84 #[Ptr yb,.slice none 0 0] V fun e w' => e = .returned (.tuple #[countV (y.made []).1,.nilIface]) ∧ Below B V w' ∧ (∀ j,j < V.heap.size → j ≠ L.ob → L.o2 ≠ some j → ¬ L.SC j → w'.heap[j]? = V.heap[j]?) ∧ ∃ L',YdAt At B w' yb L' (y.makeP []) :=
 (yMake_calls HC HB h hY (hf.ok hk) (.slice none 0 0) [] (XRow.nil _) (by simp) (fun p hp => by simp at hp)).mono fun _ _ ⟨h1,h2,h3,L',_,_,_,h4⟩ => ⟨h1,h2,h3,L',h4⟩
theorem text_fine {B : Nat} {V : World} {tb : Nat} {fs : Tf.Fs} {o : Option Nat} (h : TreeAt B V tb fs o) (hP : Pow V) (hw : Tf.Well pathB fs) :
  Calls Tryz.prog 19 #[Ptr tb] V fun e w' => e = .returned (.string (ba (Tf.textT fs))) ∧ Below V.heap.size V w' :=
 Text_calls h hP hw.rises (by have := hw.few;omega) fun f hf => ⟨by have := well_len hw f hf;omega,(hw.each f hf).2⟩
theorem stale_fine (HC : Caches0 es At) {B : Nat} {V : World} {yb : Nat} {L : YL} {y : Bf.Yd} {l : List Ru} {m : Nat} (h : YdAt At B V yb L (y.makeP [])) (hY : YBase B V es) (hf : Bf.YFine l m y) (hk : SheetOk l) (hl : Bf.Flat l) :
  Calls Tryz.prog 85 #[Ptr yb] V fun e w' => ∃ p c,e = .returned (.slice p 0 c) ∧ Below V.heap.size V w' := by
 have h1 := hf.make hk hl
 refine (yStale_calls HC h hY.want h1.1.fs (by rw [h1.1.hl];exact hk)).mono ?_
 rintro e w' ⟨u,rfl,hr,g⟩
 rw [h1.1.hl,show (y.makeP []).fs = y.fs from rfl,h1.2] at hr
 obtain ⟨p,c,rfl,-⟩ := hr
 exact ⟨p,c,rfl,g⟩
end Go.Proofs.YthchjnopgagilaaGreatDoor
