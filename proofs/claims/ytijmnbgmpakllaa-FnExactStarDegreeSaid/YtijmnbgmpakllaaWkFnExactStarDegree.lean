/-
  StarDegree answers as its model at every argument, and leaves the lists as they were.
  No condition: every ray, every slice of rays (nil and too long ones too) and every integer.
-/
import Derived.Test.YtijmnbgmpakllaaRows
import Derived.WalkKit
import Derived.ProofKit
import Derived.OpenShut
import Derived.ShutString
import Derived.Below
import Derived.Carry
import Derived.Lib.SmallJoins
import Derived.SizedLaws
import Derived.Test.YtijmnbgmpakllaaMeL
namespace Go.Proofs.Ytijmnbgmpakllaa.fnExactStarDegree
set_option linter.unusedSimpArgs false
set_option linter.unusedVariables false
open Go.ChangeShapes Go.WideShapes Go.ChangeAt Go.RowKit
open Go.ChangeMaps (open_string shut_string)
set_option linter.unusedVariables false
theorem walk (a0 : Option Addr) (len0 cap0 : Nat) (z0 : List Int) (w : World) (w0 : IsRowF 3 w a0 len0 z0) :
    Calls Try.prog 10 #[.slice a0 len0 cap0] w fun e w' => e = .returned (.bool true) ∧ Below w.heap.size w w' := by
  obtain ⟨hn0, hmx0, hR0⟩ := w0
  obtain ⟨l0, hl0, hf0⟩ := flatT_of _ _ hn0
  subst hf0
  subst hl0
  clear hn0
  unfold maxLen at hmx0
  by_cases hb0 : l0.length ≤ 1048576
  · have HM0 := Lib.hid (show l0.length ≤ 1048576 by omega)
    go_enter Try.func10, Try.ntmps10
    go_wp2_with fail
    refine (szRayS_any _ _ _ _ 1048576 (by omega) (by have := HM0.out; omega)).mono ?_
    rintro e w' ⟨rfl, rfl⟩
    rw [if_neg (show ¬ 1048576 - (l0.length : Int) < 0 by have := HM0.out; omega)]
    go_wp2_with fail
    refine (toRayS_any _ _ _ _ _ (flatT_len _) hR0 HM0.out).mono ?_
    rintro e v1 ⟨r1, rfl, ht1, b1⟩
    have B1 := b1
    have it1 := ht1.in_
    go_wp2_with fail
    refine (specStarDegree_any _ _ _ _ ht1).mono ?_
    rintro e v2 ⟨rfl, b2⟩
    have B2 := bel2 B1 b2
    have ht1_2 := ht1.below b2
    go_wp2_with fail
    refine (toRayS_any _ _ _ _ _ (flatT_len _) (hR0.below B2) HM0.out).mono ?_
    rintro e v3 ⟨r3, rfl, hx0, b3⟩
    have B3 := bel2 B2 b3
    have ix0 := hx0.in_
    go_wp2_with fail
    refine (implStarDegree_any _ _ _ _ hx0).mono ?_
    rintro e v4 ⟨rfl, b4⟩
    have B4 := bel2 B3 b4
    have hx0_4 := hx0.below b4
    go_wp2_with fail
    refine (toRayS_any _ _ _ _ _ (flatT_len _) (hR0.below B4) HM0.out).mono ?_
    rintro e v5 ⟨r5, rfl, ht2, b5⟩
    have B5 := bel2 B4 b5
    have hx0_5 := hx0_4.below b5
    have it2 := ht2.in_
    go_wp2_with fail
    refine (eqRayS_same _ _ _ _ _ _ _ hx0_5 ht2).mono ?_
    rintro e v6 ⟨rfl, b6⟩
    have B6 := bel2 B5 b6
    have hx0_6 := hx0_5.below b6
    have ht2_6 := ht2.below b6
    go_wp2
    go_ret
    exact ⟨rfl, B6⟩
  · go_enter Try.func10, Try.ntmps10
    go_wp2_with fail
    refine (szRayS_any _ _ _ _ 1048576 (by omega) (by omega)).mono ?_
    rintro e w' ⟨rfl, rfl⟩
    rw [if_pos (show 1048576 - (l0.length : Int) < 0 by omega)]
    go_wp2
    go_ret
    exact ⟨rfl, Below.refl _ _⟩
end Go.Proofs.Ytijmnbgmpakllaa.fnExactStarDegree
