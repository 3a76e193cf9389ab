/-
  MeetDefect answers as its model at every argument, and leaves the lists as they were.
  No condition: every ray, every slice of rays (nil and too long ones too) and every integer.
-/
import Derived.Test.YtijmnbgmpakllaaRows
import Derived.WalkKit
import Derived.ProofKit
import Derived.OpenShut
import Derived.ShutString
import Derived.Below
import Derived.Carry
import Derived.Lib.SmallJoins
import Derived.SizedLaws
import Derived.Test.YtijmnbgmpakllaaMeL
namespace Go.Proofs.Ytijmnbgmpakllaa.fnExactMeetDefect
set_option linter.unusedSimpArgs false
set_option linter.unusedVariables false
open Go.ChangeShapes Go.WideShapes Go.ChangeAt Go.RowKit
open Go.ChangeMaps (open_string shut_string)
set_option linter.unusedVariables false
theorem walk (a0 : Option Addr) (len0 cap0 : Nat) (z0 : List Int) (a1 : Option Addr) (len1 cap1 : Nat) (z1 : List Int) (w : World) (w0 : IsRowF 3 w a0 len0 z0) (w1 : IsRowF 3 w a1 len1 z1) :
    Calls Try.prog 12 #[.slice a0 len0 cap0, .slice a1 len1 cap1] w fun e w' => e = .returned (.bool true) ∧ Below w.heap.size w w' := by
  obtain ⟨hn0, hmx0, hR0⟩ := w0
  obtain ⟨l0, hl0, hf0⟩ := flatT_of _ _ hn0
  subst hf0
  subst hl0
  clear hn0
  unfold maxLen at hmx0
  obtain ⟨hn1, hmx1, hR1⟩ := w1
  obtain ⟨l1, hl1, hf1⟩ := flatT_of _ _ hn1
  subst hf1
  subst hl1
  clear hn1
  unfold maxLen at hmx1
  by_cases hb0 : l0.length ≤ 1048576
  · have HM0 := Lib.hid (show l0.length ≤ 1048576 by omega)
    by_cases hb1 : l0.length + l1.length ≤ 1048576
    · have HM1 := Lib.hid (show l1.length ≤ 1048576 by omega)
      go_enter Try.func12, Try.ntmps12
      go_wp2_with fail
      refine (szRayS_any _ _ _ _ 1048576 (by omega) (by have := HM0.out; omega)).mono ?_
      rintro e w' ⟨rfl, rfl⟩
      rw [if_neg (show ¬ 1048576 - (l0.length : Int) < 0 by have := HM0.out; omega)]
      go_wp2_with fail
      refine (szRayS_any _ _ _ _ (1048576 - (l0.length : Int)) (by omega) (by have := HM0.out; have := HM1.out; omega)).mono ?_
      rintro e w' ⟨rfl, rfl⟩
      rw [if_neg (show ¬ (1048576 - (l0.length : Int)) - (l1.length : Int) < 0 by have := HM0.out; have := HM1.out; omega)]
      go_wp2_with fail
      refine (toRayS_any _ _ _ _ _ (flatT_len _) hR0 HM0.out).mono ?_
      rintro e v1 ⟨r1, rfl, ht1, b1⟩
      have B1 := b1
      have it1 := ht1.in_
      go_wp2_with fail
      refine (toRayS_any _ _ _ _ _ (flatT_len _) (hR1.below B1) HM1.out).mono ?_
      rintro e v2 ⟨r2, rfl, ht2, b2⟩
      have B2 := bel2 B1 b2
      have ht1_2 := ht1.below b2
      have it2 := ht2.in_
      go_wp2_with fail
      refine (specMeetDefect_any _ _ _ _ _ _ _ ht1_2 ht2).mono ?_
      rintro e v3 ⟨rfl, b3⟩
      have B3 := bel2 B2 b3
      have ht1_3 := ht1_2.below b3
      have ht2_3 := ht2.below b3
      go_wp2_with fail
      refine (toRayS_any _ _ _ _ _ (flatT_len _) (hR0.below B3) HM0.out).mono ?_
      rintro e v4 ⟨r4, rfl, hx0, b4⟩
      have B4 := bel2 B3 b4
      have ix0 := hx0.in_
      go_wp2_with fail
      refine (toRayS_any _ _ _ _ _ (flatT_len _) (hR1.below B4) HM1.out).mono ?_
      rintro e v5 ⟨r5, rfl, hx1, b5⟩
      have B5 := bel2 B4 b5
      have hx0_5 := hx0.below b5
      have ix1 := hx1.in_
      go_wp2_with fail
      refine (implMeetDefect_any _ _ _ _ _ _ _ hx0_5 hx1).mono ?_
      rintro e v6 ⟨rfl, b6⟩
      have B6 := bel2 B5 b6
      have hx0_6 := hx0_5.below b6
      have hx1_6 := hx1.below b6
      go_wp2_with fail
      refine (toRayS_any _ _ _ _ _ (flatT_len _) (hR0.below B6) HM0.out).mono ?_
      rintro e v7 ⟨r7, rfl, ht3, b7⟩
      have B7 := bel2 B6 b7
      have hx0_7 := hx0_6.below b7
      have hx1_7 := hx1_6.below b7
      have it3 := ht3.in_
      go_wp2_with fail
      refine (eqRayS_same _ _ _ _ _ _ _ hx0_7 ht3).mono ?_
      rintro e v8 ⟨rfl, b8⟩
      have B8 := bel2 B7 b8
      have hx0_8 := hx0_7.below b8
      have hx1_8 := hx1_7.below b8
      have ht3_8 := ht3.below b8
      go_wp2_with fail
      refine (toRayS_any _ _ _ _ _ (flatT_len _) (hR1.below B8) HM1.out).mono ?_
      rintro e v9 ⟨r9, rfl, ht4, b9⟩
      have B9 := bel2 B8 b9
      have hx0_9 := hx0_8.below b9
      have hx1_9 := hx1_8.below b9
      have it4 := ht4.in_
      go_wp2_with fail
      refine (eqRayS_same _ _ _ _ _ _ _ hx1_9 ht4).mono ?_
      rintro e v10 ⟨rfl, b10⟩
      have B10 := bel2 B9 b10
      have hx0_10 := hx0_9.below b10
      have hx1_10 := hx1_9.below b10
      have ht4_10 := ht4.below b10
      go_wp2
      go_ret
      exact ⟨rfl, B10⟩
    · go_enter Try.func12, Try.ntmps12
      go_wp2_with fail
      refine (szRayS_any _ _ _ _ 1048576 (by omega) (by have := HM0.out; omega)).mono ?_
      rintro e w' ⟨rfl, rfl⟩
      rw [if_neg (show ¬ 1048576 - (l0.length : Int) < 0 by have := HM0.out; omega)]
      go_wp2_with fail
      refine (szRayS_any _ _ _ _ (1048576 - (l0.length : Int)) (by omega) (by have := HM0.out; omega)).mono ?_
      rintro e w' ⟨rfl, rfl⟩
      rw [if_pos (show (1048576 - (l0.length : Int)) - (l1.length : Int) < 0 by have := HM0.out; omega)]
      go_wp2
      go_ret
      exact ⟨rfl, Below.refl _ _⟩
  · go_enter Try.func12, Try.ntmps12
    go_wp2_with fail
    refine (szRayS_any _ _ _ _ 1048576 (by omega) (by omega)).mono ?_
    rintro e w' ⟨rfl, rfl⟩
    rw [if_pos (show 1048576 - (l0.length : Int) < 0 by omega)]
    go_wp2
    go_ret
    exact ⟨rfl, Below.refl _ _⟩
end Go.Proofs.Ytijmnbgmpakllaa.fnExactMeetDefect
