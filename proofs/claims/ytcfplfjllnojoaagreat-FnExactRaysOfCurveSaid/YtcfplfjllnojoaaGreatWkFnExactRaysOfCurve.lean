/-
  RaysOfCurve answers as its model at every argument, leaves the lists as they were, and answers in memory of its own.
  No condition: every slice of terms (nil and too long ones too) and every integer.
-/
import Derived.Test.YtcfplfjllnojoaaGreatRows
import Derived.WalkKit
import Derived.ProofKit
import Derived.OpenShut
import Derived.ShutString
import Derived.Below
import Derived.Carry
import Derived.Lib.SmallJoins
import Derived.SizedLaws
import Derived.Test.YtcfplfjllnojoaaGreatCuRi
namespace Go.Proofs.YtcfplfjllnojoaaGreat.fnExactRaysOfCurve
set_option linter.unusedSimpArgs false
set_option linter.unusedVariables false
open Go.ChangeShapes Go.WideShapes Go.ChangeAt Go.RowKit
open Go.ChangeMaps (open_string shut_string)
set_option linter.unusedVariables false
theorem walk (a0 : Option Addr) (len0 cap0 : Nat) (z0 : List Int) (w : World) (w0 : IsRowF 3 w a0 len0 z0) :
    Calls Tryz.prog 3 #[.slice a0 len0 cap0] w fun e w' => e = .returned (.bool true) ∧ Below w.heap.size w w' := by
  obtain ⟨hn0, hmx0, hR0⟩ := w0
  obtain ⟨l0, hl0, hf0⟩ := flatT_of _ _ hn0
  subst hf0
  subst hl0
  clear hn0
  unfold maxLen at hmx0
  by_cases hb0 : l0.length ≤ 1048576
  · have HM0 := Lib.hid (show l0.length ≤ 1048576 by omega)
    go_enter Tryz.func3, Tryz.ntmps3
    go_wp2_with fail
    refine (szTermS_any _ _ _ _ 1048576 (by omega) (by have := HM0.out; omega)).mono ?_
    rintro e w' ⟨rfl, rfl⟩
    rw [if_neg (show ¬ 1048576 - (l0.length : Int) < 0 by have := HM0.out; omega)]
    go_wp2_with fail
    refine (toTermS_any _ _ _ _ _ (flatT_len _) hR0 HM0.out).mono ?_
    rintro e v1 ⟨r1, rfl, ht1, b1⟩
    have B1 := b1
    have it1 := ht1.in_
    go_wp2_with fail
    refine (specRaysOfCurve_any _ _ _ _ ht1).mono ?_
    rintro e v2 ⟨r2, Pw0, rfl, hw0, qw0, b2⟩
    have B2 := bel2 B1 b2
    have ht1_2 := ht1.below b2
    have iw0 := hw0.in_
    have Qw0 := Lib.hid qw0
    clear qw0
    go_wp2_with fail
    refine (toTermS_any _ _ _ _ _ (flatT_len _) (hR0.below B2) HM0.out).mono ?_
    rintro e v3 ⟨r3, rfl, hx0, b3⟩
    have B3 := bel2 B2 b3
    have hw0_3 := hw0.below b3
    have ix0 := hx0.in_
    go_wp2_with fail
    refine (implRaysOfCurve_any _ _ _ _ hx0).mono ?_
    rintro e v4 ⟨r4, Pg0, rfl, hg0, qg0, b4⟩
    have B4 := bel2 B3 b4
    have hw0_4 := hw0_3.below b4
    have hx0_4 := hx0.below b4
    have ig0 := hg0.in_
    have Qg0 := Lib.hid qg0
    clear qg0
    go_wp2_with fail
    refine (eqIntSS_any _ _ _ _ _ _ _ hg0 hw0_4).mono ?_
    rintro e v5 ⟨rfl, b5⟩
    have B5 := bel2 B4 b5
    have hw0_5 := hw0_4.below b5
    have hx0_5 := hx0_4.below b5
    have hg0_5 := hg0.below b5
    rw [decide_eq_true (Qg0.out.trans Qw0.out.symm)]
    go_wp2_with fail
    refine (toTermS_any _ _ _ _ _ (flatT_len _) (hR0.below B5) HM0.out).mono ?_
    rintro e v6 ⟨r6, rfl, ht2, b6⟩
    have B6 := bel2 B5 b6
    have hw0_6 := hw0_5.below b6
    have hx0_6 := hx0_5.below b6
    have hg0_6 := hg0_5.below b6
    have it2 := ht2.in_
    go_wp2_with fail
    refine (eqTermS_same _ _ _ _ _ _ _ hx0_6 ht2).mono ?_
    rintro e v7 ⟨rfl, b7⟩
    have B7 := bel2 B6 b7
    have hw0_7 := hw0_6.below b7
    have hx0_7 := hx0_6.below b7
    have hg0_7 := hg0_6.below b7
    have ht2_7 := ht2.below b7
    go_wp2_with fail
    refine (markTermS_any _ _ _ _ _ _ hx0_7 (by omega) (HM0.out)).mono ?_
    rintro e v8 ⟨rfl, hx0_m1, gr1, z1⟩
    have Z1 := Lib.hid z1
    clear z1
    have hw0_m1 := hw0_7.marked iw0 ix0 (.inl (Nat.le_refl _)) gr1
    have hg0_m1 := hg0_7.marked ig0 ix0 (.inr (Nat.le_refl _)) gr1
    have M1 := belM B7 ix0 B2.size gr1
    clear gr1
    go_wp2_with fail
    refine (eqIntSS_any _ _ _ _ _ _ _ hg0_m1 hw0_m1).mono ?_
    rintro e v9 ⟨rfl, b9⟩
    have B9 := bel2 M1 b9
    have hw0_9 := hw0_m1.below b9
    have hx0_9 := hx0_m1.below b9
    have hg0_9 := hg0_m1.below b9
    rw [decide_eq_true (Qg0.out.trans Qw0.out.symm)]
    go_wp2_with fail
    refine (markIntSS_any _ _ _ _ 1 hg0_9 (by omega) (few_ry Qg0.out)).mono ?_
    rintro e v10 ⟨rfl, hg0_m2, gr2, z2⟩
    have Z2 := Lib.hid z2
    clear z2
    have hw0_m2 := hw0_9.markedL iw0 ig0 (.inl (b3.size)) gr2
    have hx0_m2 := hx0_9.markedL ix0 ig0 (.inl (Nat.le_refl _)) gr2
    have M2 := belML B9 ig0 B3.size gr2
    clear gr2
    go_wp2_with fail
    refine (heldIntSS_any _ _ _ Pg0 1 hg0_m2 (by omega) (few_ry Qg0.out)).mono ?_
    rintro e w' ⟨rfl, rfl⟩
    go_wp2_with fail
    refine (toTermS_any _ _ _ _ _ (flatT_len _) (hR0.below M2) HM0.out).mono ?_
    rintro e v11 ⟨r11, rfl, ht3, b11⟩
    have B11 := bel2 M2 b11
    have hw0_11 := hw0_m2.below b11
    have hx0_11 := hx0_m2.below b11
    have hg0_11 := hg0_m2.below b11
    have it3 := ht3.in_
    go_wp2_with fail
    refine (implRaysOfCurve_any _ _ _ _ ht3).mono ?_
    rintro e v12 ⟨r12, Ph0, rfl, hh0, qh0, b12⟩
    have B12 := bel2 B11 b12
    have hw0_12 := hw0_11.below b12
    have hx0_12 := hx0_11.below b12
    have hg0_12 := hg0_11.below b12
    have ht3_12 := ht3.below b12
    have ih0 := hh0.in_
    have Qh0 := Lib.hid qh0
    clear qh0
    go_wp2_with fail
    refine (eqIntSS_any _ _ _ _ _ _ _ hh0 hw0_12).mono ?_
    rintro e v13 ⟨rfl, b13⟩
    have B13 := bel2 B12 b13
    have hw0_13 := hw0_12.below b13
    have hx0_13 := hx0_12.below b13
    have hg0_13 := hg0_12.below b13
    have hh0_13 := hh0.below b13
    rw [decide_eq_true (Qh0.out.trans Qw0.out.symm)]
    go_wp2_with fail
    refine (heldIntSS_any _ _ _ Pg0 1 hg0_13 (by omega) (few_ry Qg0.out)).mono ?_
    rintro e w' ⟨rfl, rfl⟩
    go_wp2
    go_ret
    exact ⟨rfl, B13⟩
  · go_enter Tryz.func3, Tryz.ntmps3
    go_wp2_with fail
    refine (szTermS_any _ _ _ _ 1048576 (by omega) (by omega)).mono ?_
    rintro e w' ⟨rfl, rfl⟩
    rw [if_pos (show 1048576 - (l0.length : Int) < 0 by omega)]
    go_wp2
    go_ret
    exact ⟨rfl, Below.refl _ _⟩
end Go.Proofs.YtcfplfjllnojoaaGreat.fnExactRaysOfCurve
