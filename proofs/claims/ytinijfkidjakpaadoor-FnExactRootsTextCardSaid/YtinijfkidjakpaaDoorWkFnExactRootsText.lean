/-
  RootsText answers as its model at every list, and leaves the list as it was.
  Conditions: the library's table of powers of ten reads as its text lays it; every slice of integers otherwise.
-/
import Derived.Test.YtinijfkidjakpaaDoorRows
import Derived.WalkKit
import Derived.ProofKit
import Derived.OpenShut
import Derived.ShutString
import Derived.Below
import Derived.Carry
import Derived.Lib.SmallJoins
import Derived.SizedLaws
import Derived.MakeChecks
import Derived.OpenVars
import Derived.LaidMore
import Derived.Stop.Joined
import Derived.Lib.LaidTab
import Derived.Test.YtinijfkidjakpaaDoorRootT
namespace Go.Proofs.YtinijfkidjakpaaDoor.fnExactRootsText
set_option linter.unusedSimpArgs false
set_option linter.unusedVariables false
open Go.ChangeShapes Go.WideShapes Go.ChangeAt Go.RowKit
open Go.ChangeMaps (open_string shut_string)
set_option linter.unusedVariables false
/-- What the condition gives: the tables' cells. -/
theorem laid_of {W : World} (h : laidMetH Tryd.prog Rows.fnExactRootsTextRow.laid W) : Pows W := by
  rw [MakeChecks.laidMetH_plain _ _ _ (by kernel_rfl)] at h
  have h1 := laidMet.tail h
  have h2 := laidMet.tail h1
  exact pows_of_laid h2

theorem walk (a0 : Option Addr) (len0 cap0 : Nat) (z0 : List Int) (w : World) (w0 : IsRow .i64 w a0 len0 cap0 z0) (hN : Pows w) :
    Calls Tryd.prog 3 #[.slice a0 len0 cap0] w fun e w' => e = .returned (.bool true) ∧ Below w.heap.size w w' := by
  obtain ⟨hR0, hn0⟩ := RD.of_row w0
  obtain ⟨p0, hp0⟩ : ∃ p, z0.take len0 = p := ⟨_, rfl⟩
  rw [hp0] at hR0 hn0
  have HN0 := Lib.hid hn0
  clear hn0 hp0
  have N0 := Lib.hid hN
  clear hN
  by_cases hb0 : len0 ≤ 1048576
  · have HM0 := Lib.hid (show p0.length ≤ 1048576 by rw [HN0.out]; exact hb0)
    go_enter Tryd.func3, Tryd.ntmps3
    go_wp2_with fail
    refine (toIntS_any _ _ _ _ p0 HN0.out.symm hR0 HM0.out).mono ?_
    rintro e v1 ⟨r1, rfl, ht1, b1⟩
    have B1 := b1
    have it1 := ht1.in_
    go_wp2_with fail
    refine (specRootsText_any _ _ _ _ ht1).mono ?_
    rintro e v2 ⟨rfl, b2⟩
    have B2 := bel2 B1 b2
    have ht1_2 := ht1.below b2
    go_wp2_with fail
    refine (toIntS_any _ _ _ _ p0 HN0.out.symm (hR0.below B2) HM0.out).mono ?_
    rintro e v3 ⟨r3, rfl, hx0, b3⟩
    have B3 := bel2 B2 b3
    have ix0 := hx0.in_
    go_wp2_with fail
    refine (implRootsText_any _ (N0.out.below B3) _ _ _ hx0).mono ?_
    rintro e v4 ⟨rfl, b4⟩
    have B4 := bel2 B3 b4
    have hx0_4 := hx0.below b4
    go_wp2_with fail
    refine (toIntS_any _ _ _ _ p0 HN0.out.symm (hR0.below B4) HM0.out).mono ?_
    rintro e v5 ⟨r5, rfl, ht2, b5⟩
    have B5 := bel2 B4 b5
    have hx0_5 := hx0_4.below b5
    have it2 := ht2.in_
    go_wp2_with fail
    refine (eqIntS_any _ _ _ _ _ _ _ hx0_5 ht2).mono ?_
    rintro e w' ⟨rfl, n1, rfl⟩
    have D1 := belN B5 n1
    have hx0_d1 := hx0_5.drewN n1
    have ht2_d1 := ht2.drewN n1
    go_wp2
    go_ret
    exact ⟨rfl, D1⟩
  · go_enter Tryd.func3, Tryd.ntmps3
    go_wp2
    go_ret
    exact ⟨rfl, Below.refl _ _⟩
end Go.Proofs.YtinijfkidjakpaaDoor.fnExactRootsText
