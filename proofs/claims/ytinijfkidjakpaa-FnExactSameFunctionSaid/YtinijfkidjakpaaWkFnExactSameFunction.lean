/-
  SameFunction answers as its model at every argument, and leaves the lists as they were.
  No condition: every slice of integers (nil and too long ones too) and every integer.
-/
import Derived.Test.YtinijfkidjakpaaRows
import Derived.WalkKit
import Derived.ProofKit
import Derived.OpenShut
import Derived.ShutString
import Derived.Below
import Derived.Carry
import Derived.Lib.SmallJoins
import Derived.SizedLaws
import Derived.Test.YtinijfkidjakpaaSameB
namespace Go.Proofs.Ytinijfkidjakpaa.fnExactSameFunction
set_option linter.unusedSimpArgs false
set_option linter.unusedVariables false
open Go.ChangeShapes Go.WideShapes Go.ChangeAt Go.RowKit
open Go.ChangeMaps (open_string shut_string)
set_option linter.unusedVariables false
theorem walk (a0 : Option Addr) (len0 cap0 : Nat) (z0 : List Int) (a1 : Option Addr) (len1 cap1 : Nat) (z1 : List Int) (w : World) (w0 : IsRow .i64 w a0 len0 cap0 z0) (w1 : IsRow .i64 w a1 len1 cap1 z1) :
    Calls Try.prog 10 #[.slice a0 len0 cap0, .slice a1 len1 cap1] w fun e w' => e = .returned (.bool true) ∧ Below w.heap.size w w' := by
  obtain ⟨hR0, hn0⟩ := RD.of_row w0
  obtain ⟨p0, hp0⟩ : ∃ p, z0.take len0 = p := ⟨_, rfl⟩
  rw [hp0] at hR0 hn0
  have HN0 := Lib.hid hn0
  clear hn0 hp0
  obtain ⟨hR1, hn1⟩ := RD.of_row w1
  obtain ⟨p1, hp1⟩ : ∃ p, z1.take len1 = p := ⟨_, rfl⟩
  rw [hp1] at hR1 hn1
  have HN1 := Lib.hid hn1
  clear hn1 hp1
  by_cases hb0 : len0 ≤ 1048576
  · have HM0 := Lib.hid (show p0.length ≤ 1048576 by rw [HN0.out]; exact hb0)
    by_cases hb1 : len1 ≤ 1048576
    · have HM1 := Lib.hid (show p1.length ≤ 1048576 by rw [HN1.out]; exact hb1)
      go_enter Try.func10, Try.ntmps10
      go_wp2_with fail
      refine (toIntS_any _ _ _ _ p0 HN0.out.symm hR0 HM0.out).mono ?_
      rintro e v1 ⟨r1, rfl, ht1, b1⟩
      have B1 := b1
      have it1 := ht1.in_
      go_wp2_with fail
      refine (toIntS_any _ _ _ _ p1 HN1.out.symm (hR1.below B1) HM1.out).mono ?_
      rintro e v2 ⟨r2, rfl, ht2, b2⟩
      have B2 := bel2 B1 b2
      have ht1_2 := ht1.below b2
      have it2 := ht2.in_
      go_wp2_with fail
      refine (specSameFunction_any _ _ _ _ _ _ _ ht1_2 ht2).mono ?_
      rintro e v3 ⟨rfl, b3⟩
      have B3 := bel2 B2 b3
      have ht1_3 := ht1_2.below b3
      have ht2_3 := ht2.below b3
      go_wp2_with fail
      refine (toIntS_any _ _ _ _ p0 HN0.out.symm (hR0.below B3) HM0.out).mono ?_
      rintro e v4 ⟨r4, rfl, hx0, b4⟩
      have B4 := bel2 B3 b4
      have ix0 := hx0.in_
      go_wp2_with fail
      refine (toIntS_any _ _ _ _ p1 HN1.out.symm (hR1.below B4) HM1.out).mono ?_
      rintro e v5 ⟨r5, rfl, hx1, b5⟩
      have B5 := bel2 B4 b5
      have hx0_5 := hx0.below b5
      have ix1 := hx1.in_
      go_wp2_with fail
      refine (implSameFunction_any _ _ _ _ _ _ _ hx0_5 hx1).mono ?_
      rintro e v6 ⟨rfl, b6⟩
      have B6 := bel2 B5 b6
      have hx0_6 := hx0_5.below b6
      have hx1_6 := hx1.below b6
      go_wp2_with fail
      refine (toIntS_any _ _ _ _ p0 HN0.out.symm (hR0.below B6) HM0.out).mono ?_
      rintro e v7 ⟨r7, rfl, ht3, b7⟩
      have B7 := bel2 B6 b7
      have hx0_7 := hx0_6.below b7
      have hx1_7 := hx1_6.below b7
      have it3 := ht3.in_
      go_wp2_with fail
      refine (eqIntS_any _ _ _ _ _ _ _ hx0_7 ht3).mono ?_
      rintro e w' ⟨rfl, n1, rfl⟩
      have D1 := belN B7 n1
      have hx0_d1 := hx0_7.drewN n1
      have hx1_d1 := hx1_7.drewN n1
      have ht3_d1 := ht3.drewN n1
      go_wp2_with fail
      refine (toIntS_any _ _ _ _ p1 HN1.out.symm (hR1.below D1) HM1.out).mono ?_
      rintro e v8 ⟨r8, rfl, ht4, b8⟩
      have B8 := bel2 D1 b8
      have hx0_8 := hx0_d1.below b8
      have hx1_8 := hx1_d1.below b8
      have it4 := ht4.in_
      go_wp2_with fail
      refine (eqIntS_any _ _ _ _ _ _ _ hx1_8 ht4).mono ?_
      rintro e w' ⟨rfl, n2, rfl⟩
      have D2 := belN B8 n2
      have hx0_d2 := hx0_8.drewN n2
      have hx1_d2 := hx1_8.drewN n2
      have ht4_d2 := ht4.drewN n2
      go_wp2
      go_ret
      exact ⟨rfl, D2⟩
    · go_enter Try.func10, Try.ntmps10
      go_wp2
      go_ret
      exact ⟨rfl, Below.refl _ _⟩
  · go_enter Try.func10, Try.ntmps10
    go_wp2
    go_ret
    exact ⟨rfl, Below.refl _ _⟩
end Go.Proofs.Ytinijfkidjakpaa.fnExactSameFunction
