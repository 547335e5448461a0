/- Walks of package path's Clean, Join, split, Dir and Last. -/
import Derived.Test.YtpkkhabiheobnaaDoorLeft
namespace Go.Proofs.YtpkkhabiheobnaaDoor
open Go.RowKit Go.Shelf Go.Lib

/-- What Clean tells: the clean text, or an error's number. -/
def clean (s : List UInt8) : Except Nat (List UInt8) :=
  if 200 < s.length then .error 2 else
  match Kf.left (Kf.parts s) with
  | none => .error 3
  | some a => if a = [] then .error 6 else if pathB (Lib.join a [47]) = true then .ok (Lib.join a [47]) else .error 4

/-- The four variables of package api that package path hands back. -/
structure Errs (w : World) (aB aS aN aE : Addr) : Prop where
  b : w.cell? ⟨1, 0, none⟩ = some (.iface 54 (.pointer (some aB)))
  s : w.cell? ⟨2, 0, none⟩ = some (.iface 54 (.pointer (some aS)))
  n : w.cell? ⟨3, 0, none⟩ = some (.iface 54 (.pointer (some aN)))
  e : w.cell? ⟨5, 0, none⟩ = some (.iface 54 (.pointer (some aE)))

theorem Errs.below {w w' : World} {aB aS aN aE : Addr} (h : Errs w aB aS aN aE) (hb : Below w.heap.size w w') : Errs w' aB aS aN aE :=
  ⟨(hb.cell (p := ⟨1, 0, none⟩) (lt_of_cell h.b)).trans h.b, (hb.cell (p := ⟨2, 0, none⟩) (lt_of_cell h.s)).trans h.s, (hb.cell (p := ⟨3, 0, none⟩) (lt_of_cell h.n)).trans h.n, (hb.cell (p := ⟨5, 0, none⟩) (lt_of_cell h.e)).trans h.e⟩

def errV (aB aS aN aE : Addr) (k : Nat) : Value :=
  .iface 54 (.pointer (some (if k = 2 then aB else if k = 3 then aS else if k = 6 then aE else aN)))
/-- Clean's two results. -/
def cleanV (aB aS aN aE : Addr) (r : Except Nat (List UInt8)) : Value :=
  match r with
  | .ok t => .tuple #[.string (ba t), .nilIface]
  | .error k => .tuple #[.string (ba []), errV aB aS aN aE k]


set_option maxHeartbeats 1000000 in
theorem Clean_long (s : List UInt8) (h : 200 < s.length) (w : World) {aB aS aN aE : Addr} (hE : Errs w aB aS aN aE) :
    Calls Tryd.prog 14 #[.string (ba s)] w fun e w' => e = .returned (cleanV aB aS aN aE (clean s)) ∧ Below w.heap.size w w' := by
  have hr : cleanV aB aS aN aE (clean s) = .tuple #[.string ⟨#[]⟩, .iface 54 (.pointer (some aB))] := by simp [clean, h, cleanV, errV]
  rw [hr]
  have hz : (200 : Int) < ((ba s).size : Int) := by rw [ba_size]; omega
  generalize ba s = bs at *
  have hb := hE.b
  clear hE hr
  go_enter Tryd.func14, Tryd.ntmps14
  go_wp2
  go_region
  go_wp2
  go_ret2
  exact ⟨rfl, (Below.refl _ _).drew⟩

theorem map_ba (a : List (List UInt8)) : (a.map ba).map (·.data.toList) = a := by
  rw [List.map_map]
  conv => rhs; rw [← List.map_id a]
  exact List.map_congr_left fun x _ => by simp

set_option maxHeartbeats 1000000 in
theorem Clean_short (s : List UInt8) (h : s.length ≤ 200) (w : World) {aB aS aN aE : Addr} (hE : Errs w aB aS aN aE) :
    Calls Tryd.prog 14 #[.string (ba s)] w fun e w' => e = .returned (cleanV aB aS aN aE (clean s)) ∧ Below w.heap.size w w' := by
  have hz : ((ba s).size : Int) ≤ 200 := by rw [ba_size]; omega
  have hz' : (s.length : Int) ≤ 200 := by omega
  have hn : ¬ 200 < s.length := by omega
  go_enter Tryd.func14, Tryd.ntmps14
  go_wp2_with fail
  refine (callsIn_wide.1 (leftParts_in 3 (by omega) s (by omega) _)).mono ?_
  rintro e w1 ⟨⟨a, v, hl, rfl, hrow⟩ | ⟨hl, rfl⟩, hb⟩
  · have hE1 := hE.below hb
    by_cases ha : a = []
    · subst ha
      have hr : cleanV aB aS aN aE (clean s) = .tuple #[.string ⟨#[]⟩, .iface 54 (.pointer (some aE))] := by simp [clean, hl, hn, cleanV, errV]
      have HR : Hid (cleanV aB aS aN aE (clean s) = .tuple #[.string ⟨#[]⟩, .iface 54 (.pointer (some aE))]) := hr
      have he := hE1.e
      have hrow2 := hrow.2
      clear hr hl hE hE1 hrow hn hz hz'
      rcases hrow2 with ⟨rfl, _⟩ | ⟨g, cap, cur, rfl, _⟩
      · go_wp2
        go_region
        go_wp2
        go_ret2
        exact ⟨ret_eq HR.out.symm, hb.drew⟩
      · go_wp2
        go_region
        go_wp2
        go_ret2
        exact ⟨ret_eq HR.out.symm, hb.drew⟩
    · obtain ⟨k, hk⟩ : ∃ k, a.length = k + 1 := ⟨a.length - 1, by have := List.length_pos_iff.2 ha; omega⟩
      have hj := Kf.left_join s a hl ha
      obtain ⟨g, cap, rfl⟩ : ∃ g cap, v = .slice (some ⟨g, 0, none⟩) a.length cap := by
        rw [hk] at hrow ⊢; exact ownsRow_succ hrow
      obtain ⟨o1, o2, o3⟩ := owns_cells hrow
      have hmb := map_ba a
      have hlm : (a.map ba).length = a.length := by simp
      have hal := Kf.left_len _ _ hl
      have hpl := Kf.parts_len s
      have hcj := Tryd.strings_Join g 0 cap (a.map ba) ⟨#[47]⟩ w1 o1 o2 (by rw [hlm]; omega) (by rw [hlm]; exact o3) (by rw [hmb]; show (Lib.join a [47]).length ≤ _; omega)
      rw [hmb, hlm] at hcj
      have HJ : Hid (Calls Tryd.prog 28 #[.slice (some ⟨g, 0, none⟩) a.length cap, .string ⟨#[47]⟩] w1 fun e w' => e = .returned (.string (ba (Lib.join a [47]))) ∧ Below w1.heap.size w1 w') := hcj
      have HA : Hid (¬ a = []) := ha
      have HL : Hid (Kf.left (Kf.parts s) = some a) := hl
      have b0 : ((a.length : Int) == 0) = false := by simp; omega
      clear hcj hmb hlm o1 o2 o3 hrow hk ha hl hal hpl
      go_wp2_with fail
      refine HJ.out.mono ?_
      rintro e w2 ⟨rfl, hb2⟩
      have hb12 := hb.trans (hb2.mono hb.size)
      have hE2 := hE1.below hb2
      generalize hu : Lib.join a [47] = u at *
      have HU : Hid (Lib.join a [47] = u) := hu
      clear hu HJ b0
      cases hp : pathB u with
      | true =>
        have hr : cleanV aB aS aN aE (clean s) = .tuple #[.string (ba u), .nilIface] := by simp [clean, HL.out, hn, HA.out, HU.out, hp, cleanV]
        have HR : Hid (cleanV aB aS aN aE (clean s) = .tuple #[.string (ba u), .nilIface]) := hr
        clear hr
        go_wp2_with fail
        refine (Check_yes u (by omega) hp _).mono ?_
        rintro e w3 ⟨rfl, hb3⟩
        clear hp
        go_wp2
        go_ret2
        exact ⟨ret_eq HR.out.symm, hb12.trans (hb3.mono hb12.size)⟩
      | false =>
        have hr : cleanV aB aS aN aE (clean s) = .tuple #[.string ⟨#[]⟩, .iface 54 (.pointer (some aN))] := by simp [clean, HL.out, hn, HA.out, HU.out, hp, cleanV, errV]
        have HR : Hid (cleanV aB aS aN aE (clean s) = .tuple #[.string ⟨#[]⟩, .iface 54 (.pointer (some aN))]) := hr
        clear hr
        go_wp2_with fail
        refine (Check_no u (by omega) hp _ _ _ hE2.n).mono ?_
        rintro e w3 ⟨rfl, hb3⟩
        clear hp
        go_wp2
        go_ret2
        exact ⟨ret_eq HR.out.symm, hb12.trans (hb3.mono hb12.size)⟩
  · have hE1 := hE.below hb
    have hr : cleanV aB aS aN aE (clean s) = .tuple #[.string ⟨#[]⟩, .iface 54 (.pointer (some aS))] := by simp [clean, hl, hn, cleanV, errV]
    have HR : Hid (cleanV aB aS aN aE (clean s) = .tuple #[.string ⟨#[]⟩, .iface 54 (.pointer (some aS))]) := hr
    have he := hE1.s
    clear hr hl hE hE1 hn hz hz'
    go_wp2
    go_region
    go_wp2
    go_ret2
    exact ⟨ret_eq HR.out.symm, hb.drew⟩

theorem Clean_calls (s : List UInt8) (w : World) {aB aS aN aE : Addr} (hE : Errs w aB aS aN aE) :
    Calls Tryd.prog 14 #[.string (ba s)] w fun e w' => e = .returned (cleanV aB aS aN aE (clean s)) ∧ Below w.heap.size w w' := by
  rcases Nat.lt_or_ge 200 s.length with h | h
  · exact Clean_long s h w hE
  · exact Clean_short s h w hE
end Go.Proofs.YtpkkhabiheobnaaDoor
