/- The walk of PathCleans. -/
import Derived.Test.YtpkkhabiheobnaaDoorRSplit
import Derived.Test.YtpkkhabiheobnaaDoorStays
import Derived.Test.YtpkkhabiheobnaaDoorCodeFault
namespace Go.Proofs.YtpkkhabiheobnaaDoor
open Go.RowKit Go.Shelf Go.Lib

theorem E12.errs {w : World} {es : Nat → Addr} (h : E12 w es) : Errs w (es 1) (es 2) (es 3) (es 5) := ⟨h.c1, h.c2, h.c3, h.c5⟩

theorem codeOf_es {w : World} {es : Nat → Addr} (h : E12 w es) (k : Nat) (hk : k < 12) : codeOf es (es k) = (k : Int) + 1 :=
  codeOf_some hk rfl (fun j hj => h.inj j k (by omega) hk (by omega))

/-- coded at a sentinel and its number: true. -/
theorem coded_es (k : Nat) (hk : k < 12) (es : Nat → Addr) (w : World) (hE : E12 w es) :
    Calls Tryd.prog 10 #[.iface 54 (.pointer (some (es k))), .int .i64 ((k : Int) + 1)] w fun e w' => e = .returned (.bool true) ∧ Below w.heap.size w w' := by
  obtain ⟨c, t, hr⟩ := hE.rows k hk
  have := coded_ptr ((k : Int) + 1) (es k) es c t w hE hr
  rwa [codeOf_es hE k hk, show decide ((k : Int) + 1 = (k : Int) + 1) = true from decide_eq_true rfl] at this
theorem coded_none (w : World) : Calls Tryd.prog 10 #[.nilIface, .int .i64 0] w fun e w' => e = .returned (.bool true) ∧ Below w.heap.size w w' :=
  (coded_nil 0 w).mono fun _ _ ⟨he, hw⟩ => ⟨he, hw ▸ Below.refl _ _⟩

def errOf (es : Nat → Addr) (r : Except Nat (List UInt8)) : Value :=
  match r with
  | .ok _ => .nilIface
  | .error k => errV (es 1) (es 2) (es 3) (es 5) k
def txtOf (r : Except Nat (List UInt8)) : List UInt8 :=
  match r with
  | .ok t => t
  | .error _ => []
def numOf (r : Except Nat (List UInt8)) : Int :=
  match r with
  | .ok _ => 0
  | .error k => (k : Int)

theorem cleanV_eq (es : Nat → Addr) (r : Except Nat (List UInt8)) : cleanV (es 1) (es 2) (es 3) (es 5) r = .tuple #[.string (ba (txtOf r)), errOf es r] := by cases r <;> rfl
theorem cleanRV_eq (r : Except Nat (List UInt8)) : cleanRV r = .tuple #[.string (ba (txtOf r)), .int .i64 (numOf r)] := by cases r <;> rfl

theorem clean_codes (s : List UInt8) (k : Nat) (h : clean s = .error k) : k = 2 ∨ k = 3 ∨ k = 6 ∨ k = 4 := by
  unfold clean at h
  split at h
  · cases h; simp
  · split at h
    · cases h; simp
    · split at h
      · cases h; simp
      · split at h
        · cases h
        · cases h; simp

theorem coded_clean (s : List UInt8) (es : Nat → Addr) (w : World) (hE : E12 w es) :
    Calls Tryd.prog 10 #[errOf es (clean s), .int .i64 (numOf (clean s))] w fun e w' => e = .returned (.bool true) ∧ Below w.heap.size w w' := by
  cases h : clean s with
  | ok t => exact coded_none w
  | error k =>
    rcases clean_codes s k h with rfl | rfl | rfl | rfl
    · exact coded_es 1 (by omega) es w hE
    · exact coded_es 2 (by omega) es w hE
    · exact coded_es 5 (by omega) es w hE
    · exact coded_es 3 (by omega) es w hE

def chkV (es : Nat → Addr) (s : List UInt8) : Value := if pathB s = true then .nilIface else .iface 54 (.pointer (some (es 3)))
theorem Check_any (s : List UInt8) (hs : s.length ≤ 1000000) (es : Nat → Addr) (w : World) (hE : E12 w es) :
    Calls Tryd.prog 17 #[.string (ba s)] w fun e w' => e = .returned (chkV es s) ∧ Below w.heap.size w w' := by
  unfold chkV
  cases h : pathB s with
  | true => exact Check_yes s hs h w
  | false => exact Check_no s hs h w _ _ hE.c3
theorem coded_chk (s : List UInt8) (es : Nat → Addr) (w : World) (hE : E12 w es) :
    Calls Tryd.prog 10 #[chkV es s, .int .i64 (if okR false s = true then 0 else 4)] w fun e w' => e = .returned (.bool true) ∧ Below w.heap.size w w' := by
  unfold chkV
  rw [pathB_R]
  cases h : okR false s with
  | true => exact coded_none w
  | false => exact coded_es 3 (by omega) es w hE

theorem split_no (s : List UInt8) (hs : s.length ≤ 1000000) (hp : pathB s = false) (w : World) (t : TypeId) (u : Value) (hg : w.cell? ⟨3, 0, none⟩ = some (.iface t u)) :
    Calls Tryd.prog 31 #[.string (ba s)] w fun e w' => e = .returned (.tuple #[.string (ba []), .string (ba [])]) ∧ Below w.heap.size w w' := by
  go_enter Tryd.func31, Tryd.ntmps31
  go_wp2_with fail
  refine (Check_no s hs hp _ t u hg).mono ?_
  rintro e w1 ⟨rfl, hb⟩
  go_wp2
  go_ret2
  exact ⟨rfl, hb⟩
theorem split_any (s : List UInt8) (hs : s.length ≤ 1000000) (es : Nat → Addr) (w : World) (hE : E12 w es) :
    Calls Tryd.prog 31 #[.string (ba s)] w fun e w' => e = .returned (.tuple #[.string (ba (splitR s).1), .string (ba (splitR s).2)]) ∧ Below w.heap.size w w' := by
  unfold splitR
  cases h : okR false s with
  | true => exact split_yes s hs (by rw [pathB_R]; exact h) w
  | false => exact split_no s hs (by rw [pathB_R]; exact h) w _ _ hE.c3
theorem Dir_any (s : List UInt8) (hs : s.length ≤ 1000000) (es : Nat → Addr) (w : World) (hE : E12 w es) :
    Calls Tryd.prog 19 #[.string (ba s)] w fun e w' => e = .returned (.string (ba (splitR s).1)) ∧ Below w.heap.size w w' := by
  go_enter Tryd.func19, Tryd.ntmps19
  go_wp2_with fail
  refine (split_any s hs es _ hE).mono ?_
  rintro e w' ⟨rfl, hb⟩
  go_wp2
  go_ret
  exact ⟨rfl, hb⟩
theorem Last_any (s : List UInt8) (hs : s.length ≤ 1000000) (es : Nat → Addr) (w : World) (hE : E12 w es) :
    Calls Tryd.prog 20 #[.string (ba s)] w fun e w' => e = .returned (.string (ba (splitR s).2)) ∧ Below w.heap.size w w' := by
  go_enter Tryd.func20, Tryd.ntmps20
  go_wp2_with fail
  refine (split_any s hs es _ hE).mono ?_
  rintro e w' ⟨rfl, hb⟩
  go_wp2
  go_ret
  exact ⟨rfl, hb⟩

set_option maxHeartbeats 4000000 in
theorem PathCleans_short (a b : List UInt8) (ha : a.length ≤ 250) (hb : b.length ≤ 250) (es : Nat → Addr) (w : World) (hE : E12 w es) :
    Calls Tryd.prog 4 #[.string (ba a), .string (ba b)] w fun e w' => e = .returned (.bool true) ∧ Below w.heap.size w w' := by
  have z1 : (a.length : Int) ≤ 250 := by omega
  have z2 : (b.length : Int) ≤ 250 := by omega
  have ha1 : a.length ≤ 1000000 := by omega
  have hb1 : b.length ≤ 1000000 := by omega
  go_enter Tryd.func4, Tryd.ntmps4
  go_wp2_with fail
  refine (pathed_calls w hE.errs).mono ?_
  rintro e w1 ⟨rfl, g1⟩
  have E1 := hE.below g1
  have hip := IsPath_calls a ha1 w1
  have hck := fun W (hW : E12 W es) => coded_chk a es W hW
  have hc1 := Clean_calls a
  have hc2 := fun W (hW : E12 W es) => Join_calls a b ha1 hb1 W hW.errs
  have hr1 := CleanOf_calls a
  have hr2 := CleanOf_calls (a ++ 47 :: b)
  have hk1 := fun W (hW : E12 W es) => coded_clean a es W hW
  have hk2 := fun W (hW : E12 W es) => coded_clean (a ++ 47 :: b) es W hW
  have hca := fun W (hW : E12 W es) => Check_any a ha1 es W hW
  rw [cleanRV_eq] at hr1 hr2
  generalize chkV es a = cv at *
  generalize hA : clean a = ra at *
  generalize hB : clean (a ++ 47 :: b) = rb at *
  have HC1 : Hid (∀ W, E12 W es → Calls Tryd.prog 14 #[.string (ba a)] W fun e w' => e = .returned (.tuple #[.string (ba (txtOf ra)), errOf es ra]) ∧ Below W.heap.size W w') := fun W hW => by
    have := Clean_calls a W hW.errs
    rwa [hA, cleanV_eq] at this
  have HC2 : Hid (∀ W, E12 W es → Calls Tryd.prog 15 #[.string (ba a), .string (ba b)] W fun e w' => e = .returned (.tuple #[.string (ba (txtOf rb)), errOf es rb]) ∧ Below W.heap.size W w') := fun W hW => by
    have := Join_calls a b ha1 hb1 W hW.errs
    rwa [hB, cleanV_eq] at this
  have HR1 := show Hid _ from hr1
  have HR2 := show Hid _ from hr2
  have HK1 := show Hid _ from hk1
  have HK2 := show Hid _ from hk2
  have HCA := show Hid _ from hca
  have HSP : Hid (∀ W, Calls Tryd.prog 18 #[.string (ba a)] W fun e w' => e = .returned (.tuple #[.string (ba (splitR a).1), .string (ba (splitR a).2)]) ∧ Below W.heap.size W w') := fun W => SplitOf_calls a ha1 W
  have HDI : Hid (∀ W, E12 W es → Calls Tryd.prog 19 #[.string (ba a)] W fun e w' => e = .returned (.string (ba (splitR a).1)) ∧ Below W.heap.size W w') := fun W hW => Dir_any a ha1 es W hW
  have HLA : Hid (∀ W, E12 W es → Calls Tryd.prog 20 #[.string (ba a)] W fun e w' => e = .returned (.string (ba (splitR a).2)) ∧ Below W.heap.size W w') := fun W hW => Last_any a ha1 es W hW
  generalize (splitR a).1 = pd at *
  generalize (splitR a).2 = pl at *
  generalize txtOf ra = ta at *
  generalize txtOf rb = tb at *
  generalize errOf es ra = ea at *
  generalize errOf es rb = eb at *
  generalize numOf ra = na at *
  generalize numOf rb = nb at *
  clear hr1 hr2 hk1 hk2 hca hc1 hc2 hA hB
  go_wp2_with fail
  refine hip.mono ?_
  rintro e w2 ⟨rfl, g2'⟩
  have g2 := g1.trans (g2'.mono g1.size)
  have E2 := hE.below g2
  clear hip E1 g2' g1
  cases hok : okR false a
  · rw [hok] at hck
    have HCK : Hid (∀ W, E12 W es → Calls Tryd.prog 10 #[cv, .int .i64 4] W fun e w' => e = .returned (.bool true) ∧ Below W.heap.size W w') := hck
    clear hck hok
    have Y2 := E2
    clear E2
    go_wp2_with fail
    refine (HC1.out _ Y2).mono ?_
    rintro e w3 ⟨rfl, g3'⟩
    have g3 := g2.trans (g3'.mono g2.size)
    have Y3 := hE.below g3
    clear g3' Y2 g2
    go_wp2_with fail
    refine (HC2.out _ Y3).mono ?_
    rintro e w4 ⟨rfl, g4'⟩
    have g4 := g3.trans (g4'.mono g3.size)
    have Y4 := hE.below g4
    clear g4' Y3 g3
    go_wp2_with fail
    refine (HR1.out _).mono ?_
    rintro e w5 ⟨rfl, g5'⟩
    have g5 := g4.trans (g5'.mono g4.size)
    have Y5 := hE.below g5
    clear g5' Y4 g4
    go_wp2_with fail
    rw [show ba a ++ { data := #[47] } ++ ba b = ba (a ++ 47 :: b) by rw [show (ByteArray.mk #[47]) = ba [47] from rfl, ba_append, ba_append]; simp]
    refine (HR2.out _).mono ?_
    rintro e w6 ⟨rfl, g6'⟩
    have g6 := g5.trans (g6'.mono g5.size)
    have Y6 := hE.below g6
    clear g6' Y5 g5
    go_wp2_with fail
    refine (HCA.out _ Y6).mono ?_
    rintro e w7 ⟨rfl, g7'⟩
    have g7 := g6.trans (g7'.mono g6.size)
    have Y7 := hE.below g7
    clear g7' Y6 g6
    go_wp2_with fail
    refine (HCK.out _ Y7).mono ?_
    rintro e w8 ⟨rfl, g8'⟩
    have g8 := g7.trans (g8'.mono g7.size)
    have Y8 := hE.below g8
    clear g8' Y7 g7
    go_wp2_with fail
    refine (HK1.out _ Y8).mono ?_
    rintro e w9 ⟨rfl, g9'⟩
    have g9 := g8.trans (g9'.mono g8.size)
    have Y9 := hE.below g9
    clear g9' Y8 g8
    go_wp2_with fail
    refine (HK2.out _ Y9).mono ?_
    rintro e w10 ⟨rfl, g10'⟩
    have g10 := g9.trans (g10'.mono g9.size)
    have Y10 := hE.below g10
    clear g10' Y9 g9
    go_wp2_with fail
    refine (HSP.out _).mono ?_
    rintro e w11 ⟨rfl, g11'⟩
    have g11 := g10.trans (g11'.mono g10.size)
    have Y11 := hE.below g11
    clear g11' Y10 g10
    go_wp2_with fail
    refine (HDI.out _ Y11).mono ?_
    rintro e w12 ⟨rfl, g12'⟩
    have g12 := g11.trans (g12'.mono g11.size)
    have Y12 := hE.below g12
    clear g12' Y11 g11
    go_wp2_with fail
    refine (HLA.out _ Y12).mono ?_
    rintro e w13 ⟨rfl, g13'⟩
    have g13 := g12.trans (g13'.mono g12.size)
    have Y13 := hE.below g13
    clear g13' Y12 g12
    go_wp2
    go_ret
    exact ⟨rfl, g13⟩
  · rw [hok] at hck
    have HCK : Hid (∀ W, E12 W es → Calls Tryd.prog 10 #[cv, .int .i64 0] W fun e w' => e = .returned (.bool true) ∧ Below W.heap.size W w') := hck
    clear hck hok
    have Y2 := E2
    clear E2
    go_wp2_with fail
    refine (HC1.out _ Y2).mono ?_
    rintro e w3 ⟨rfl, g3'⟩
    have g3 := g2.trans (g3'.mono g2.size)
    have Y3 := hE.below g3
    clear g3' Y2 g2
    go_wp2_with fail
    refine (HC2.out _ Y3).mono ?_
    rintro e w4 ⟨rfl, g4'⟩
    have g4 := g3.trans (g4'.mono g3.size)
    have Y4 := hE.below g4
    clear g4' Y3 g3
    go_wp2_with fail
    refine (HR1.out _).mono ?_
    rintro e w5 ⟨rfl, g5'⟩
    have g5 := g4.trans (g5'.mono g4.size)
    have Y5 := hE.below g5
    clear g5' Y4 g4
    go_wp2_with fail
    rw [show ba a ++ { data := #[47] } ++ ba b = ba (a ++ 47 :: b) by rw [show (ByteArray.mk #[47]) = ba [47] from rfl, ba_append, ba_append]; simp]
    refine (HR2.out _).mono ?_
    rintro e w6 ⟨rfl, g6'⟩
    have g6 := g5.trans (g6'.mono g5.size)
    have Y6 := hE.below g6
    clear g6' Y5 g5
    go_wp2_with fail
    refine (HCA.out _ Y6).mono ?_
    rintro e w7 ⟨rfl, g7'⟩
    have g7 := g6.trans (g7'.mono g6.size)
    have Y7 := hE.below g7
    clear g7' Y6 g6
    go_wp2_with fail
    refine (HCK.out _ Y7).mono ?_
    rintro e w8 ⟨rfl, g8'⟩
    have g8 := g7.trans (g8'.mono g7.size)
    have Y8 := hE.below g8
    clear g8' Y7 g7
    go_wp2_with fail
    refine (HK1.out _ Y8).mono ?_
    rintro e w9 ⟨rfl, g9'⟩
    have g9 := g8.trans (g9'.mono g8.size)
    have Y9 := hE.below g9
    clear g9' Y8 g8
    go_wp2_with fail
    refine (HK2.out _ Y9).mono ?_
    rintro e w10 ⟨rfl, g10'⟩
    have g10 := g9.trans (g10'.mono g9.size)
    have Y10 := hE.below g10
    clear g10' Y9 g9
    go_wp2_with fail
    refine (HSP.out _).mono ?_
    rintro e w11 ⟨rfl, g11'⟩
    have g11 := g10.trans (g11'.mono g10.size)
    have Y11 := hE.below g11
    clear g11' Y10 g10
    go_wp2_with fail
    refine (HDI.out _ Y11).mono ?_
    rintro e w12 ⟨rfl, g12'⟩
    have g12 := g11.trans (g12'.mono g11.size)
    have Y12 := hE.below g12
    clear g12' Y11 g11
    go_wp2_with fail
    refine (HLA.out _ Y12).mono ?_
    rintro e w13 ⟨rfl, g13'⟩
    have g13 := g12.trans (g13'.mono g12.size)
    have Y13 := hE.below g13
    clear g13' Y12 g12
    go_wp2
    go_ret
    exact ⟨rfl, g13⟩

theorem PathCleans_calls (a b : ByteArray) (es : Nat → Addr) (w : World) (hE : E12 w es) :
    Calls Tryd.prog 4 #[.string a, .string b] w fun e w' => e = .returned (.bool true) ∧ Below w.heap.size w w' := by
  rcases Nat.lt_or_ge 250 a.size with h | h
  · have hz : (250 : Int) < (a.size : Int) := by omega
    go_enter Tryd.func4, Tryd.ntmps4
    go_wp2_with fail
    refine (pathed_calls w hE.errs).mono ?_
    rintro e w1 ⟨rfl, g1⟩
    go_wp2
    go_ret
    exact ⟨rfl, g1⟩
  · rcases Nat.lt_or_ge 250 b.size with h' | h'
    · have hy : (a.size : Int) ≤ 250 := by omega
      have hz : (250 : Int) < (b.size : Int) := by omega
      go_enter Tryd.func4, Tryd.ntmps4
      go_wp2_with fail
      refine (pathed_calls w hE.errs).mono ?_
      rintro e w1 ⟨rfl, g1⟩
      go_wp2
      go_ret
      exact ⟨rfl, g1⟩
    · have e1 : a = ba a.data.toList := ba_eq rfl
      have e2 : b = ba b.data.toList := ba_eq rfl
      rw [e1, e2]
      exact PathCleans_short a.data.toList b.data.toList (by rw [e1, ba_size] at h; exact h) (by rw [e2, ba_size] at h'; exact h') es w hE
end Go.Proofs.YtpkkhabiheobnaaDoor
