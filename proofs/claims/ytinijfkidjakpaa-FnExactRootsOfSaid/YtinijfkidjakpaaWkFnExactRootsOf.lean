/-
  RootsOf answers as its model at every argument, leaves the lists as they were, and answers in memory of its own.
  No condition: every slice of integers (nil and too long ones too) and every integer.
-/
import Derived.Test.YtinijfkidjakpaaRows
import Derived.WalkKit
import Derived.ProofKit
import Derived.OpenShut
import Derived.ShutString
import Derived.Below
import Derived.Carry
import Derived.Lib.SmallJoins
import Derived.SizedLaws
import Derived.Test.YtinijfkidjakpaaRootsB
namespace Go.Proofs.Ytinijfkidjakpaa.fnExactRootsOf
set_option linter.unusedSimpArgs false
set_option linter.unusedVariables false
open Go.ChangeShapes Go.WideShapes Go.ChangeAt Go.RowKit
open Go.ChangeMaps (open_string shut_string)
set_option linter.unusedVariables false
theorem walk (a0 : Option Addr) (len0 cap0 : Nat) (z0 : List Int) (w : World) (w0 : IsRow .i64 w a0 len0 cap0 z0) :
    Calls Try.prog 4 #[.slice a0 len0 cap0] w fun e w' => e = .returned (.bool true) ∧ Below w.heap.size w w' := by
  obtain ⟨hR0, hn0⟩ := RD.of_row w0
  obtain ⟨p0, hp0⟩ : ∃ p, z0.take len0 = p := ⟨_, rfl⟩
  rw [hp0] at hR0 hn0
  have HN0 := Lib.hid hn0
  clear hn0 hp0
  by_cases hb0 : len0 ≤ 1048576
  · have HM0 := Lib.hid (show p0.length ≤ 1048576 by rw [HN0.out]; exact hb0)
    go_enter Try.func4, Try.ntmps4
    go_wp2_with fail
    refine (toIntS_any _ _ _ _ p0 HN0.out.symm hR0 HM0.out).mono ?_
    rintro e v1 ⟨r1, rfl, ht1, b1⟩
    have B1 := b1
    have it1 := ht1.in_
    go_wp2_with fail
    refine (specRootsOf_any _ _ _ _ ht1).mono ?_
    rintro e v2 ⟨r2, rfl, hw0, b2⟩
    have B2 := bel2 B1 b2
    have ht1_2 := ht1.below b2
    have iw0 := hw0.in_
    go_wp2_with fail
    refine (toIntS_any _ _ _ _ p0 HN0.out.symm (hR0.below B2) HM0.out).mono ?_
    rintro e v3 ⟨r3, rfl, hx0, b3⟩
    have B3 := bel2 B2 b3
    have hw0_3 := hw0.below b3
    have ix0 := hx0.in_
    go_wp2_with fail
    refine (implRootsOf_any _ _ _ _ hx0).mono ?_
    rintro e v4 ⟨r4, rfl, hg0, b4⟩
    have B4 := bel2 B3 b4
    have hw0_4 := hw0_3.below b4
    have hx0_4 := hx0.below b4
    have ig0 := hg0.in_
    go_wp2_with fail
    refine (eqRootS_same _ _ _ _ _ _ hg0 hw0_4).mono ?_
    rintro e v5 ⟨rfl, b5⟩
    have B5 := bel2 B4 b5
    have hw0_5 := hw0_4.below b5
    have hx0_5 := hx0_4.below b5
    have hg0_5 := hg0.below b5
    go_wp2_with fail
    refine (toIntS_any _ _ _ _ p0 HN0.out.symm (hR0.below B5) HM0.out).mono ?_
    rintro e v6 ⟨r6, rfl, ht2, b6⟩
    have B6 := bel2 B5 b6
    have hw0_6 := hw0_5.below b6
    have hx0_6 := hx0_5.below b6
    have hg0_6 := hg0_5.below b6
    have it2 := ht2.in_
    go_wp2_with fail
    refine (eqIntS_any _ _ _ _ _ _ _ hx0_6 ht2).mono ?_
    rintro e w' ⟨rfl, n1, rfl⟩
    have D1 := belN B6 n1
    have hw0_d1 := hw0_6.drewN n1
    have hx0_d1 := hx0_6.drewN n1
    have hg0_d1 := hg0_6.drewN n1
    have ht2_d1 := ht2.drewN n1
    go_wp2_with fail
    refine (markIntS_any _ _ _ _ _ hx0_d1 (by omega) (HM0.out)).mono ?_
    rintro e v7 ⟨rfl, hx0_m1, gr1, z1⟩
    have Z1 := Lib.hid z1
    clear z1
    have hw0_m1 := hw0_d1.marked iw0 ix0 (.inl (Nat.le_refl _)) gr1
    have hg0_m1 := hg0_d1.marked ig0 ix0 (.inr (Nat.le_refl _)) gr1
    have M1 := belM D1 ix0 B2.size gr1
    clear gr1
    go_wp2_with fail
    refine (eqRootS_same _ _ _ _ _ _ hg0_m1 hw0_m1).mono ?_
    rintro e v8 ⟨rfl, b8⟩
    have B8 := bel2 M1 b8
    have hw0_8 := hw0_m1.below b8
    have hx0_8 := hx0_m1.below b8
    have hg0_8 := hg0_m1.below b8
    go_wp2_with fail
    refine (markRootS_any _ _ _ _ _ _ hg0_8 (by omega) (Nat.le_trans (rootsR_len _) (by omega))).mono ?_
    rintro e v9 ⟨rfl, hg0_m2, gr2, z2⟩
    have Z2 := Lib.hid z2
    clear z2
    have hw0_m2 := hw0_8.marked iw0 ig0 (.inl (b3.size)) gr2
    have hx0_m2 := hx0_8.marked ix0 ig0 (.inl (Nat.le_refl _)) gr2
    have M2 := belM B8 ig0 B3.size gr2
    clear gr2
    go_wp2_with fail
    refine (heldRootS_any _ _ _ _ 1 hg0_m2 (by omega) (Nat.le_trans (rootsR_len _) (by omega))).mono ?_
    rintro e w' ⟨rfl, rfl⟩
    go_wp2_with fail
    refine (toIntS_any _ _ _ _ p0 HN0.out.symm (hR0.below M2) HM0.out).mono ?_
    rintro e v10 ⟨r10, rfl, ht3, b10⟩
    have B10 := bel2 M2 b10
    have hw0_10 := hw0_m2.below b10
    have hx0_10 := hx0_m2.below b10
    have hg0_10 := hg0_m2.below b10
    have it3 := ht3.in_
    go_wp2_with fail
    refine (implRootsOf_any _ _ _ _ ht3).mono ?_
    rintro e v11 ⟨r11, rfl, hh0, b11⟩
    have B11 := bel2 B10 b11
    have hw0_11 := hw0_10.below b11
    have hx0_11 := hx0_10.below b11
    have hg0_11 := hg0_10.below b11
    have ht3_11 := ht3.below b11
    have ih0 := hh0.in_
    go_wp2_with fail
    refine (eqRootS_same _ _ _ _ _ _ hh0 hw0_11).mono ?_
    rintro e v12 ⟨rfl, b12⟩
    have B12 := bel2 B11 b12
    have hw0_12 := hw0_11.below b12
    have hx0_12 := hx0_11.below b12
    have hg0_12 := hg0_11.below b12
    have hh0_12 := hh0.below b12
    go_wp2_with fail
    refine (heldRootS_any _ _ _ _ 1 hg0_12 (by omega) (Nat.le_trans (rootsR_len _) (by omega))).mono ?_
    rintro e w' ⟨rfl, rfl⟩
    go_wp2
    go_ret
    exact ⟨rfl, B12⟩
  · go_enter Try.func4, Try.ntmps4
    go_wp2
    go_ret
    exact ⟨rfl, Below.refl _ _⟩
end Go.Proofs.Ytinijfkidjakpaa.fnExactRootsOf
