/-
  MeetTable answers as its model at every argument, leaves the lists as they were, and answers in memory of its own.
  No condition: every ray, every slice of rays (nil and too long ones too) and every integer.
-/
import Derived.Test.YtijmnbgmpakllaaRows
import Derived.WalkKit
import Derived.ProofKit
import Derived.OpenShut
import Derived.ShutString
import Derived.Below
import Derived.Carry
import Derived.Lib.SmallJoins
import Derived.SizedLaws
import Derived.Test.YtijmnbgmpakllaaMeTL
namespace Go.Proofs.Ytijmnbgmpakllaa.fnExactMeetTable
set_option linter.unusedSimpArgs false
set_option linter.unusedVariables false
open Go.ChangeShapes Go.WideShapes Go.ChangeAt Go.RowKit
open Go.ChangeMaps (open_string shut_string)
set_option linter.unusedVariables false
theorem walk (a0 : Option Addr) (len0 cap0 : Nat) (z0 : List (List Int)) (w : World) (w0 : IsRowS 3 w a0 len0 z0) :
    Calls Try.prog 13 #[.slice a0 len0 cap0] w fun e w' => e = .returned (.bool true) ∧ Below w.heap.size w w' := by
  have HR0 := Lib.hid w0
  clear w0
  obtain ⟨L0, hL0⟩ := rows_tm HR0.out
  have HL0 := Lib.hid hL0
  clear hL0
  by_cases hb0 : (len0 + cntS 3 z0) ≤ 1048576
  · have HM0 := Lib.hid (show len0 + cntS 3 z0 ≤ 1048576 by omega)
    go_enter Try.func13, Try.ntmps13
    go_wp2_with fail
    refine (szRaySS_any _ _ _ _ z0 1048576 HR0.out (by omega)).mono ?_
    rintro e w' ⟨rfl, rfl⟩
    rw [if_neg (show ¬ 1048576 - ((len0 + cntS 3 z0 : Nat) : Int) < 0 by have := HM0.out; omega)]
    go_wp2_with fail
    refine (toRaySS_any _ _ _ _ z0 HR0.out HM0.out).mono ?_
    rintro e v1 ⟨r1, Pt1, rfl, ht1, qt1, b1⟩
    have B1 := b1
    have it1 := ht1.in_
    have Qt1 := Lib.hid qt1
    clear qt1
    go_wp2_with fail
    refine (specMeetTable_any _ _ _ _ L0 ht1 (Qt1.out.trans HL0.out)).mono ?_
    rintro e v2 ⟨r2, Pw0, rfl, hw0, qw0, b2⟩
    have B2 := bel2 B1 b2
    have ht1_2 := ht1.below b2
    have iw0 := hw0.in_
    have Qw0 := Lib.hid qw0
    clear qw0
    go_wp2_with fail
    refine (toRaySS_any _ _ _ _ z0 (HR0.out.below B2) HM0.out).mono ?_
    rintro e v3 ⟨r3, Px0, rfl, hx0, qx0, b3⟩
    have B3 := bel2 B2 b3
    have hw0_3 := hw0.below b3
    have ix0 := hx0.in_
    have Qx0 := Lib.hid qx0
    clear qx0
    go_wp2_with fail
    refine (implMeetTable_any _ _ _ _ L0 hx0 (Qx0.out.trans HL0.out)).mono ?_
    rintro e v4 ⟨r4, Pg0, rfl, hg0, qg0, b4⟩
    have B4 := bel2 B3 b4
    have hw0_4 := hw0_3.below b4
    have hx0_4 := hx0.below b4
    have ig0 := hg0.in_
    have Qg0 := Lib.hid qg0
    clear qg0
    go_wp2_with fail
    refine (eqIntSS_any _ _ _ _ _ _ _ hg0 hw0_4).mono ?_
    rintro e v5 ⟨rfl, b5⟩
    have B5 := bel2 B4 b5
    have hw0_5 := hw0_4.below b5
    have hx0_5 := hx0_4.below b5
    have hg0_5 := hg0.below b5
    rw [decide_eq_true (Qg0.out.trans Qw0.out.symm)]
    go_wp2_with fail
    refine (toRaySS_any _ _ _ _ z0 (HR0.out.below B5) HM0.out).mono ?_
    rintro e v6 ⟨r6, Pt2, rfl, ht2, qt2, b6⟩
    have B6 := bel2 B5 b6
    have hw0_6 := hw0_5.below b6
    have hx0_6 := hx0_5.below b6
    have hg0_6 := hg0_5.below b6
    have it2 := ht2.in_
    have Qt2 := Lib.hid qt2
    clear qt2
    go_wp2_with fail
    refine (eqRaySS_same _ _ _ _ _ _ _ hx0_6 ht2 (Qx0.out.trans Qt2.out.symm)).mono ?_
    rintro e v7 ⟨rfl, b7⟩
    have B7 := bel2 B6 b7
    have hw0_7 := hw0_6.below b7
    have hx0_7 := hx0_6.below b7
    have hg0_7 := hg0_6.below b7
    have ht2_7 := ht2.below b7
    go_wp2_with fail
    refine (markRaySS_any _ _ _ _ 1 hx0_7 (by omega) ((by have e := LSF.tot (by decide) hx0_7; rw [Qx0.out] at e; have := HM0.out; omega))).mono ?_
    rintro e v8 ⟨rfl, gr1⟩
    have hw0_m1 := hw0_7.markedL iw0 ix0 (.inl (Nat.le_refl _)) gr1
    have hg0_m1 := hg0_7.markedL ig0 ix0 (.inr (Nat.le_refl _)) gr1
    have M1 := belML B7 ix0 B2.size gr1
    clear gr1
    go_wp2_with fail
    refine (eqIntSS_any _ _ _ _ _ _ _ hg0_m1 hw0_m1).mono ?_
    rintro e v9 ⟨rfl, b9⟩
    have B9 := bel2 M1 b9
    have hw0_9 := hw0_m1.below b9
    have hg0_9 := hg0_m1.below b9
    rw [decide_eq_true (Qg0.out.trans Qw0.out.symm)]
    go_wp2_with fail
    refine (markIntSS_any _ _ _ _ 1 hg0_9 (by omega) (few_mt Qg0.out)).mono ?_
    rintro e v10 ⟨rfl, hg0_m2, gr2, z2⟩
    have Z2 := Lib.hid z2
    clear z2
    have hw0_m2 := hw0_9.markedL iw0 ig0 (.inl (b3.size)) gr2
    have M2 := belML B9 ig0 B3.size gr2
    clear gr2
    go_wp2_with fail
    refine (heldIntSS_any _ _ _ Pg0 1 hg0_m2 (by omega) (few_mt Qg0.out)).mono ?_
    rintro e w' ⟨rfl, rfl⟩
    go_wp2_with fail
    refine (toRaySS_any _ _ _ _ z0 (HR0.out.below M2) HM0.out).mono ?_
    rintro e v11 ⟨r11, Pt3, rfl, ht3, qt3, b11⟩
    have B11 := bel2 M2 b11
    have hw0_11 := hw0_m2.below b11
    have hg0_11 := hg0_m2.below b11
    have it3 := ht3.in_
    have Qt3 := Lib.hid qt3
    clear qt3
    go_wp2_with fail
    refine (implMeetTable_any _ _ _ _ L0 ht3 (Qt3.out.trans HL0.out)).mono ?_
    rintro e v12 ⟨r12, Ph0, rfl, hh0, qh0, b12⟩
    have B12 := bel2 B11 b12
    have hw0_12 := hw0_11.below b12
    have hg0_12 := hg0_11.below b12
    have ht3_12 := ht3.below b12
    have ih0 := hh0.in_
    have Qh0 := Lib.hid qh0
    clear qh0
    go_wp2_with fail
    refine (eqIntSS_any _ _ _ _ _ _ _ hh0 hw0_12).mono ?_
    rintro e v13 ⟨rfl, b13⟩
    have B13 := bel2 B12 b13
    have hw0_13 := hw0_12.below b13
    have hg0_13 := hg0_12.below b13
    have hh0_13 := hh0.below b13
    rw [decide_eq_true (Qh0.out.trans Qw0.out.symm)]
    go_wp2_with fail
    refine (heldIntSS_any _ _ _ Pg0 1 hg0_13 (by omega) (few_mt Qg0.out)).mono ?_
    rintro e w' ⟨rfl, rfl⟩
    go_wp2
    go_ret
    exact ⟨rfl, B13⟩
  · go_enter Try.func13, Try.ntmps13
    go_wp2_with fail
    refine (szRaySS_any _ _ _ _ z0 1048576 HR0.out (by omega)).mono ?_
    rintro e w' ⟨rfl, rfl⟩
    rw [if_pos (show 1048576 - ((len0 + cntS 3 z0 : Nat) : Int) < 0 by omega)]
    go_wp2
    go_ret
    exact ⟨rfl, Below.refl _ _⟩
end Go.Proofs.Ytijmnbgmpakllaa.fnExactMeetTable
