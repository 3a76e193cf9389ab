/-
  PolyFromRoots answers as its model at every argument, leaves the lists as they were, and answers in memory of its own.
  No condition: every slice of integers (nil and too long ones too) and every integer.
-/
import Derived.Test.YtinijfkidjakpaaRows
import Derived.WalkKit
import Derived.ProofKit
import Derived.OpenShut
import Derived.ShutString
import Derived.Below
import Derived.Carry
import Derived.Lib.SmallJoins
import Derived.SizedLaws
import Derived.Test.YtinijfkidjakpaaFromB
namespace Go.Proofs.Ytinijfkidjakpaa.fnExactPolyFromRoots
set_option linter.unusedSimpArgs false
set_option linter.unusedVariables false
open Go.ChangeShapes Go.WideShapes Go.ChangeAt Go.RowKit
open Go.ChangeMaps (open_string shut_string)
set_option linter.unusedVariables false
theorem walk (a0 : Int) (a1 : Option Addr) (len1 cap1 : Nat) (z1 : List Int) (w : World) (w0 : (Lit.int .i64 a0).wf = true) (w1 : IsRow .i64 w a1 len1 cap1 z1) :
    Calls Try.prog 11 #[.int .i64 a0, .slice a1 len1 cap1] w fun e w' => e = .returned (.bool true) ∧ Below w.heap.size w w' := by
  obtain ⟨hR1, hn1⟩ := RD.of_row w1
  obtain ⟨p1, hp1⟩ : ∃ p, z1.take len1 = p := ⟨_, rfl⟩
  rw [hp1] at hR1 hn1
  have HN1 := Lib.hid hn1
  clear hn1 hp1
  by_cases hb1 : len1 ≤ 1048576
  · have HM1 := Lib.hid (show p1.length ≤ 1048576 by rw [HN1.out]; exact hb1)
    go_enter Try.func11, Try.ntmps11
    go_wp2_with fail
    refine (toIntS_any _ _ _ _ p1 HN1.out.symm hR1 HM1.out).mono ?_
    rintro e v1 ⟨r1, rfl, ht1, b1⟩
    have B1 := b1
    have it1 := ht1.in_
    go_wp2_with fail
    refine (specPolyFromRoots_any _ _ _ _ _ ht1).mono ?_
    rintro e v2 ⟨r2, rfl, hw0, b2⟩
    have B2 := bel2 B1 b2
    have ht1_2 := ht1.below b2
    have iw0 := hw0.in_
    go_wp2_with fail
    refine (toIntS_any _ _ _ _ p1 HN1.out.symm (hR1.below B2) HM1.out).mono ?_
    rintro e v3 ⟨r3, rfl, hx1, b3⟩
    have B3 := bel2 B2 b3
    have hw0_3 := hw0.below b3
    have ix1 := hx1.in_
    go_wp2_with fail
    refine (implPolyFromRoots_any _ _ _ _ _ hx1).mono ?_
    rintro e v4 ⟨r4, rfl, hg0, b4⟩
    have B4 := bel2 B3 b4
    have hw0_4 := hw0_3.below b4
    have hx1_4 := hx1.below b4
    have ig0 := hg0.in_
    go_wp2_with fail
    refine (eqIntS_any _ _ _ _ _ _ _ hg0 hw0_4).mono ?_
    rintro e w' ⟨rfl, n1, rfl⟩
    have D1 := belN B4 n1
    have hw0_d1 := hw0_4.drewN n1
    have hx1_d1 := hx1_4.drewN n1
    have hg0_d1 := hg0.drewN n1
    go_wp2_with fail
    refine (toIntS_any _ _ _ _ p1 HN1.out.symm (hR1.below D1) HM1.out).mono ?_
    rintro e v5 ⟨r5, rfl, ht2, b5⟩
    have B5 := bel2 D1 b5
    have hw0_5 := hw0_d1.below b5
    have hx1_5 := hx1_d1.below b5
    have hg0_5 := hg0_d1.below b5
    have it2 := ht2.in_
    go_wp2_with fail
    refine (eqIntS_any _ _ _ _ _ _ _ hx1_5 ht2).mono ?_
    rintro e w' ⟨rfl, n2, rfl⟩
    have D2 := belN B5 n2
    have hw0_d2 := hw0_5.drewN n2
    have hx1_d2 := hx1_5.drewN n2
    have hg0_d2 := hg0_5.drewN n2
    have ht2_d2 := ht2.drewN n2
    go_wp2_with fail
    refine (markIntS_any _ _ _ _ _ hx1_d2 (by omega) (HM1.out)).mono ?_
    rintro e v6 ⟨rfl, hx1_m1, gr1, z1⟩
    have Z1 := Lib.hid z1
    clear z1
    have hw0_m1 := hw0_d2.marked iw0 ix1 (.inl (Nat.le_refl _)) gr1
    have hg0_m1 := hg0_d2.marked ig0 ix1 (.inr (Nat.le_refl _)) gr1
    have M1 := belM D2 ix1 B2.size gr1
    clear gr1
    go_wp2_with fail
    refine (eqIntS_any _ _ _ _ _ _ _ hg0_m1 hw0_m1).mono ?_
    rintro e w' ⟨rfl, n3, rfl⟩
    have D3 := belN M1 n3
    have hw0_d3 := hw0_m1.drewN n3
    have hx1_d3 := hx1_m1.drewN n3
    have hg0_d3 := hg0_m1.drewN n3
    go_wp2_with fail
    refine (markIntS_any _ _ _ _ _ hg0_d3 (by omega) (Nat.le_trans (pfR_le _ _) (by omega))).mono ?_
    rintro e v7 ⟨rfl, hg0_m2, gr2, z2⟩
    have Z2 := Lib.hid z2
    clear z2
    have hw0_m2 := hw0_d3.marked iw0 ig0 (.inl (b3.size)) gr2
    have hx1_m2 := hx1_d3.marked ix1 ig0 (.inl (Nat.le_refl _)) gr2
    have M2 := belM D3 ig0 B3.size gr2
    clear gr2
    go_wp2_with fail
    refine (heldIntS_any _ _ _ _ 1 hg0_m2 (by omega) (Nat.le_trans (pfR_le _ _) (by omega))).mono ?_
    rintro e w' ⟨rfl, rfl⟩
    go_wp2_with fail
    refine (toIntS_any _ _ _ _ p1 HN1.out.symm (hR1.below M2) HM1.out).mono ?_
    rintro e v8 ⟨r8, rfl, ht3, b8⟩
    have B8 := bel2 M2 b8
    have hw0_8 := hw0_m2.below b8
    have hx1_8 := hx1_m2.below b8
    have hg0_8 := hg0_m2.below b8
    have it3 := ht3.in_
    go_wp2_with fail
    refine (implPolyFromRoots_any _ _ _ _ _ ht3).mono ?_
    rintro e v9 ⟨r9, rfl, hh0, b9⟩
    have B9 := bel2 B8 b9
    have hw0_9 := hw0_8.below b9
    have hx1_9 := hx1_8.below b9
    have hg0_9 := hg0_8.below b9
    have ht3_9 := ht3.below b9
    have ih0 := hh0.in_
    go_wp2_with fail
    refine (eqIntS_any _ _ _ _ _ _ _ hh0 hw0_9).mono ?_
    rintro e w' ⟨rfl, n4, rfl⟩
    have D4 := belN B9 n4
    have hw0_d4 := hw0_9.drewN n4
    have hx1_d4 := hx1_9.drewN n4
    have hg0_d4 := hg0_9.drewN n4
    have hh0_d4 := hh0.drewN n4
    go_wp2_with fail
    refine (heldIntS_any _ _ _ _ 1 hg0_d4 (by omega) (Nat.le_trans (pfR_le _ _) (by omega))).mono ?_
    rintro e w' ⟨rfl, rfl⟩
    go_wp2
    go_ret
    exact ⟨rfl, D4⟩
  · go_enter Try.func11, Try.ntmps11
    go_wp2
    go_ret
    exact ⟨rfl, Below.refl _ _⟩
end Go.Proofs.Ytinijfkidjakpaa.fnExactPolyFromRoots
