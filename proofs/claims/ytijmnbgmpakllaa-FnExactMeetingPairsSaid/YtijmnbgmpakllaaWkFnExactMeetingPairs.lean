/-
  MeetingPairs answers as its model at every argument, leaves the lists as they were, and answers in memory of its own.
  No condition: every ray, every slice of rays (nil and too long ones too) and every integer.
-/
import Derived.Test.YtijmnbgmpakllaaRows
import Derived.WalkKit
import Derived.ProofKit
import Derived.OpenShut
import Derived.ShutString
import Derived.Below
import Derived.Carry
import Derived.Lib.SmallJoins
import Derived.SizedLaws
import Derived.Test.YtijmnbgmpakllaaMeL
namespace Go.Proofs.Ytijmnbgmpakllaa.fnExactMeetingPairs
set_option linter.unusedSimpArgs false
set_option linter.unusedVariables false
open Go.ChangeShapes Go.WideShapes Go.ChangeAt Go.RowKit
open Go.ChangeMaps (open_string shut_string)
set_option linter.unusedVariables false
theorem walk (a0 : Option Addr) (len0 cap0 : Nat) (z0 : List Int) (a1 : Option Addr) (len1 cap1 : Nat) (z1 : List Int) (a2 : Int) (a3 : Int) (w : World) (w0 : IsRowF 3 w a0 len0 z0) (w1 : IsRowF 3 w a1 len1 z1) (w2 : (Lit.int .i64 a2).wf = true) (w3 : (Lit.int .i64 a3).wf = true) :
    Calls Try.prog 6 #[.slice a0 len0 cap0, .slice a1 len1 cap1, .int .i64 a2, .int .i64 a3] w fun e w' => e = .returned (.bool true) ∧ Below w.heap.size w w' := by
  obtain ⟨hn0, hmx0, hR0⟩ := w0
  obtain ⟨l0, hl0, hf0⟩ := flatT_of _ _ hn0
  subst hf0
  subst hl0
  clear hn0
  unfold maxLen at hmx0
  obtain ⟨hn1, hmx1, hR1⟩ := w1
  obtain ⟨l1, hl1, hf1⟩ := flatT_of _ _ hn1
  subst hf1
  subst hl1
  clear hn1
  unfold maxLen at hmx1
  by_cases hb0 : l0.length ≤ 1048576
  · have HM0 := Lib.hid (show l0.length ≤ 1048576 by omega)
    by_cases hb1 : l0.length + l1.length ≤ 1048576
    · have HM1 := Lib.hid (show l1.length ≤ 1048576 by omega)
      go_enter Try.func6, Try.ntmps6
      go_wp2_with fail
      refine (szRayS_any _ _ _ _ 1048576 (by omega) (by have := HM0.out; omega)).mono ?_
      rintro e w' ⟨rfl, rfl⟩
      rw [if_neg (show ¬ 1048576 - (l0.length : Int) < 0 by have := HM0.out; omega)]
      go_wp2_with fail
      refine (szRayS_any _ _ _ _ (1048576 - (l0.length : Int)) (by omega) (by have := HM0.out; have := HM1.out; omega)).mono ?_
      rintro e w' ⟨rfl, rfl⟩
      rw [if_neg (show ¬ (1048576 - (l0.length : Int)) - (l1.length : Int) < 0 by have := HM0.out; have := HM1.out; omega)]
      go_wp2_with fail
      refine (toRayS_any _ _ _ _ _ (flatT_len _) hR0 HM0.out).mono ?_
      rintro e v1 ⟨r1, rfl, ht1, b1⟩
      have B1 := b1
      have it1 := ht1.in_
      go_wp2_with fail
      refine (toRayS_any _ _ _ _ _ (flatT_len _) (hR1.below B1) HM1.out).mono ?_
      rintro e v2 ⟨r2, rfl, ht2, b2⟩
      have B2 := bel2 B1 b2
      have ht1_2 := ht1.below b2
      have it2 := ht2.in_
      go_wp2_with fail
      refine (specMeetingPairs_any _ _ _ _ _ _ _ _ _ ht1_2 ht2).mono ?_
      rintro e v3 ⟨r3, Pw0, rfl, hw0, qw0, b3⟩
      have B3 := bel2 B2 b3
      have ht1_3 := ht1_2.below b3
      have ht2_3 := ht2.below b3
      have iw0 := hw0.in_
      have Qw0 := Lib.hid qw0
      clear qw0
      go_wp2_with fail
      refine (toRayS_any _ _ _ _ _ (flatT_len _) (hR0.below B3) HM0.out).mono ?_
      rintro e v4 ⟨r4, rfl, hx0, b4⟩
      have B4 := bel2 B3 b4
      have hw0_4 := hw0.below b4
      have ix0 := hx0.in_
      go_wp2_with fail
      refine (toRayS_any _ _ _ _ _ (flatT_len _) (hR1.below B4) HM1.out).mono ?_
      rintro e v5 ⟨r5, rfl, hx1, b5⟩
      have B5 := bel2 B4 b5
      have hw0_5 := hw0_4.below b5
      have hx0_5 := hx0.below b5
      have ix1 := hx1.in_
      go_wp2_with fail
      refine (implMeetingPairs_any _ _ _ _ _ _ _ _ _ hx0_5 hx1).mono ?_
      rintro e v6 ⟨r6, Pg0, rfl, hg0, qg0, b6⟩
      have B6 := bel2 B5 b6
      have hw0_6 := hw0_5.below b6
      have hx0_6 := hx0_5.below b6
      have hx1_6 := hx1.below b6
      have ig0 := hg0.in_
      have Qg0 := Lib.hid qg0
      clear qg0
      go_wp2_with fail
      refine (eqIntSS_any _ _ _ _ _ _ _ hg0 hw0_6).mono ?_
      rintro e v7 ⟨rfl, b7⟩
      have B7 := bel2 B6 b7
      have hw0_7 := hw0_6.below b7
      have hx0_7 := hx0_6.below b7
      have hx1_7 := hx1_6.below b7
      have hg0_7 := hg0.below b7
      rw [decide_eq_true (Qg0.out.trans Qw0.out.symm)]
      go_wp2_with fail
      refine (toRayS_any _ _ _ _ _ (flatT_len _) (hR0.below B7) HM0.out).mono ?_
      rintro e v8 ⟨r8, rfl, ht3, b8⟩
      have B8 := bel2 B7 b8
      have hw0_8 := hw0_7.below b8
      have hx0_8 := hx0_7.below b8
      have hx1_8 := hx1_7.below b8
      have hg0_8 := hg0_7.below b8
      have it3 := ht3.in_
      go_wp2_with fail
      refine (eqRayS_same _ _ _ _ _ _ _ hx0_8 ht3).mono ?_
      rintro e v9 ⟨rfl, b9⟩
      have B9 := bel2 B8 b9
      have hw0_9 := hw0_8.below b9
      have hx0_9 := hx0_8.below b9
      have hx1_9 := hx1_8.below b9
      have hg0_9 := hg0_8.below b9
      have ht3_9 := ht3.below b9
      go_wp2_with fail
      refine (toRayS_any _ _ _ _ _ (flatT_len _) (hR1.below B9) HM1.out).mono ?_
      rintro e v10 ⟨r10, rfl, ht4, b10⟩
      have B10 := bel2 B9 b10
      have hw0_10 := hw0_9.below b10
      have hx0_10 := hx0_9.below b10
      have hx1_10 := hx1_9.below b10
      have hg0_10 := hg0_9.below b10
      have it4 := ht4.in_
      go_wp2_with fail
      refine (eqRayS_same _ _ _ _ _ _ _ hx1_10 ht4).mono ?_
      rintro e v11 ⟨rfl, b11⟩
      have B11 := bel2 B10 b11
      have hw0_11 := hw0_10.below b11
      have hx0_11 := hx0_10.below b11
      have hx1_11 := hx1_10.below b11
      have hg0_11 := hg0_10.below b11
      have ht4_11 := ht4.below b11
      go_wp2_with fail
      refine (markRayS_any _ _ _ _ _ _ hx0_11 (by omega) (HM0.out)).mono ?_
      rintro e v12 ⟨rfl, hx0_m1, gr1, z1⟩
      have Z1 := Lib.hid z1
      clear z1
      have hw0_m1 := hw0_11.marked iw0 ix0 (.inl (Nat.le_refl _)) gr1
      have hx1_m1 := hx1_11.marked ix1 ix0 (.inr (Nat.le_refl _)) gr1
      have hg0_m1 := hg0_11.marked ig0 ix0 (.inr (b5.size)) gr1
      have M1 := belM B11 ix0 B3.size gr1
      clear gr1
      go_wp2_with fail
      refine (markRayS_any _ _ _ _ _ _ hx1_m1 (by have := HM0.out; have := HM1.out; omega) (HM1.out)).mono ?_
      rintro e v13 ⟨rfl, hx1_m2, gr2, z2⟩
      have Z2 := Lib.hid z2
      clear z2
      have hw0_m2 := hw0_m1.marked iw0 ix1 (.inl (b4.size)) gr2
      have hx0_m2 := hx0_m1.marked ix0 ix1 (.inl (Nat.le_refl _)) gr2
      have hg0_m2 := hg0_m1.marked ig0 ix1 (.inr (Nat.le_refl _)) gr2
      have M2 := belM M1 ix1 B4.size gr2
      clear gr2
      go_wp2_with fail
      refine (eqIntSS_any _ _ _ _ _ _ _ hg0_m2 hw0_m2).mono ?_
      rintro e v14 ⟨rfl, b14⟩
      have B14 := bel2 M2 b14
      have hw0_14 := hw0_m2.below b14
      have hx0_14 := hx0_m2.below b14
      have hx1_14 := hx1_m2.below b14
      have hg0_14 := hg0_m2.below b14
      rw [decide_eq_true (Qg0.out.trans Qw0.out.symm)]
      go_wp2_with fail
      refine (markIntSS_any _ _ _ _ 1 hg0_14 (by omega) (few_mp Qg0.out)).mono ?_
      rintro e v15 ⟨rfl, hg0_m3, gr3, z3⟩
      have Z3 := Lib.hid z3
      clear z3
      have hw0_m3 := hw0_14.markedL iw0 ig0 (.inl (Nat.le_trans b4.size (b5.size))) gr3
      have hx0_m3 := hx0_14.markedL ix0 ig0 (.inl (b5.size)) gr3
      have hx1_m3 := hx1_14.markedL ix1 ig0 (.inl (Nat.le_refl _)) gr3
      have M3 := belML B14 ig0 B5.size gr3
      clear gr3
      go_wp2_with fail
      refine (heldIntSS_any _ _ _ Pg0 1 hg0_m3 (by omega) (few_mp Qg0.out)).mono ?_
      rintro e w' ⟨rfl, rfl⟩
      go_wp2_with fail
      refine (toRayS_any _ _ _ _ _ (flatT_len _) (hR0.below M3) HM0.out).mono ?_
      rintro e v16 ⟨r16, rfl, ht5, b16⟩
      have B16 := bel2 M3 b16
      have hw0_16 := hw0_m3.below b16
      have hx0_16 := hx0_m3.below b16
      have hx1_16 := hx1_m3.below b16
      have hg0_16 := hg0_m3.below b16
      have it5 := ht5.in_
      go_wp2_with fail
      refine (toRayS_any _ _ _ _ _ (flatT_len _) (hR1.below B16) HM1.out).mono ?_
      rintro e v17 ⟨r17, rfl, ht6, b17⟩
      have B17 := bel2 B16 b17
      have hw0_17 := hw0_16.below b17
      have hx0_17 := hx0_16.below b17
      have hx1_17 := hx1_16.below b17
      have hg0_17 := hg0_16.below b17
      have ht5_17 := ht5.below b17
      have it6 := ht6.in_
      go_wp2_with fail
      refine (implMeetingPairs_any _ _ _ _ _ _ _ _ _ ht5_17 ht6).mono ?_
      rintro e v18 ⟨r18, Ph0, rfl, hh0, qh0, b18⟩
      have B18 := bel2 B17 b18
      have hw0_18 := hw0_17.below b18
      have hx0_18 := hx0_17.below b18
      have hx1_18 := hx1_17.below b18
      have hg0_18 := hg0_17.below b18
      have ht5_18 := ht5_17.below b18
      have ht6_18 := ht6.below b18
      have ih0 := hh0.in_
      have Qh0 := Lib.hid qh0
      clear qh0
      go_wp2_with fail
      refine (eqIntSS_any _ _ _ _ _ _ _ hh0 hw0_18).mono ?_
      rintro e v19 ⟨rfl, b19⟩
      have B19 := bel2 B18 b19
      have hw0_19 := hw0_18.below b19
      have hx0_19 := hx0_18.below b19
      have hx1_19 := hx1_18.below b19
      have hg0_19 := hg0_18.below b19
      have hh0_19 := hh0.below b19
      rw [decide_eq_true (Qh0.out.trans Qw0.out.symm)]
      go_wp2_with fail
      refine (heldIntSS_any _ _ _ Pg0 1 hg0_19 (by omega) (few_mp Qg0.out)).mono ?_
      rintro e w' ⟨rfl, rfl⟩
      go_wp2
      go_ret
      exact ⟨rfl, B19⟩
    · go_enter Try.func6, Try.ntmps6
      go_wp2_with fail
      refine (szRayS_any _ _ _ _ 1048576 (by omega) (by have := HM0.out; omega)).mono ?_
      rintro e w' ⟨rfl, rfl⟩
      rw [if_neg (show ¬ 1048576 - (l0.length : Int) < 0 by have := HM0.out; omega)]
      go_wp2_with fail
      refine (szRayS_any _ _ _ _ (1048576 - (l0.length : Int)) (by omega) (by have := HM0.out; omega)).mono ?_
      rintro e w' ⟨rfl, rfl⟩
      rw [if_pos (show (1048576 - (l0.length : Int)) - (l1.length : Int) < 0 by have := HM0.out; omega)]
      go_wp2
      go_ret
      exact ⟨rfl, Below.refl _ _⟩
  · go_enter Try.func6, Try.ntmps6
    go_wp2_with fail
    refine (szRayS_any _ _ _ _ 1048576 (by omega) (by omega)).mono ?_
    rintro e w' ⟨rfl, rfl⟩
    rw [if_pos (show 1048576 - (l0.length : Int) < 0 by omega)]
    go_wp2
    go_ret
    exact ⟨rfl, Below.refl _ _⟩
end Go.Proofs.Ytijmnbgmpakllaa.fnExactMeetingPairs
