/-
  PolyProduct answers as its model at every argument, leaves the lists as they were, and answers in memory of its own.
  No condition but that the table of the two neutral numbers holds what the program's text lays there (the card ties it).
-/
import Derived.Test.YtbhmlfidideemaaDoorRows
import Derived.WalkKit
import Derived.ProofKit
import Derived.OpenShut
import Derived.ShutString
import Derived.Below
import Derived.Carry
import Derived.Lib.SmallJoins
import Derived.SizedLaws
import Derived.MakeChecks
import Derived.OpenVars
import Derived.LaidMore
import Derived.Stop.Joined
import Derived.Lib.LaidTab
import Derived.Test.YtbhmlfidideemaaDoorPolyD
namespace Go.Proofs.YtbhmlfidideemaaDoor.fnExactPolyProduct
set_option linter.unusedSimpArgs false
set_option linter.unusedVariables false
open Go.ChangeShapes Go.WideShapes Go.ChangeAt Go.RowKit
open Go.ChangeMaps (open_string shut_string)
set_option linter.unusedVariables false
/-- What the condition gives: the tables' cells. -/
theorem laid_of {W : World} (h : laidMetH Tryd.prog Rows.fnExactPolyProductRow.laid W) : Neut W := neut_of_laid h

theorem walk (a0 : Option Addr) (len0 cap0 : Nat) (z0 : List Int) (a1 : Option Addr) (len1 cap1 : Nat) (z1 : List Int) (w : World) (w0 : IsRow .i64 w a0 len0 cap0 z0) (w1 : IsRow .i64 w a1 len1 cap1 z1) (hN : Neut w) :
    Calls Tryd.prog 6 #[.slice a0 len0 cap0, .slice a1 len1 cap1] w fun e w' => e = .returned (.bool true) ∧ Below w.heap.size w w' := by
  obtain ⟨hR0, hn0⟩ := RD.of_row w0
  obtain ⟨p0, hp0⟩ : ∃ p, z0.take len0 = p := ⟨_, rfl⟩
  rw [hp0] at hR0 hn0
  have HN0 := Lib.hid hn0
  clear hn0 hp0
  obtain ⟨hR1, hn1⟩ := RD.of_row w1
  obtain ⟨p1, hp1⟩ : ∃ p, z1.take len1 = p := ⟨_, rfl⟩
  rw [hp1] at hR1 hn1
  have HN1 := Lib.hid hn1
  clear hn1 hp1
  have N0 := Lib.hid hN
  clear hN
  by_cases hb0 : len0 ≤ 1048576
  · have HM0 := Lib.hid (show p0.length ≤ 1048576 by rw [HN0.out]; exact hb0)
    by_cases hb1 : len1 ≤ 1048576
    · have HM1 := Lib.hid (show p1.length ≤ 1048576 by rw [HN1.out]; exact hb1)
      go_enter Tryd.func6, Tryd.ntmps6
      go_wp2_with fail
      refine (toIntS_any _ _ _ _ p0 HN0.out.symm hR0 HM0.out).mono ?_
      rintro e v1 ⟨r1, rfl, ht1, b1⟩
      have B1 := b1
      have it1 := ht1.in_
      go_wp2_with fail
      refine (toIntS_any _ _ _ _ p1 HN1.out.symm (hR1.below B1) HM1.out).mono ?_
      rintro e v2 ⟨r2, rfl, ht2, b2⟩
      have B2 := bel2 B1 b2
      have ht1_2 := ht1.below b2
      have it2 := ht2.in_
      go_wp2_with fail
      refine (specPolyProduct_any _ _ _ _ _ _ _ ht1_2 ht2).mono ?_
      rintro e v3 ⟨r3, rfl, hw0, b3⟩
      have B3 := bel2 B2 b3
      have ht1_3 := ht1_2.below b3
      have ht2_3 := ht2.below b3
      have iw0 := hw0.in_
      go_wp2_with fail
      refine (toIntS_any _ _ _ _ p0 HN0.out.symm (hR0.below B3) HM0.out).mono ?_
      rintro e v4 ⟨r4, rfl, hx0, b4⟩
      have B4 := bel2 B3 b4
      have hw0_4 := hw0.below b4
      have ix0 := hx0.in_
      go_wp2_with fail
      refine (toIntS_any _ _ _ _ p1 HN1.out.symm (hR1.below B4) HM1.out).mono ?_
      rintro e v5 ⟨r5, rfl, hx1, b5⟩
      have B5 := bel2 B4 b5
      have hw0_5 := hw0_4.below b5
      have hx0_5 := hx0.below b5
      have ix1 := hx1.in_
      go_wp2_with fail
      refine (implPolyProduct_any _ (N0.out.below B5) _ _ _ _ _ _ hx0_5 hx1).mono ?_
      rintro e v6 ⟨r6, rfl, hg0, b6⟩
      have B6 := bel2 B5 b6
      have hw0_6 := hw0_5.below b6
      have hx0_6 := hx0_5.below b6
      have hx1_6 := hx1.below b6
      have ig0 := hg0.in_
      go_wp2_with fail
      refine (eqIntS_any _ _ _ _ _ _ _ hg0 hw0_6).mono ?_
      rintro e w' ⟨rfl, n1, rfl⟩
      have D1 := belN B6 n1
      have hw0_d1 := hw0_6.drewN n1
      have hx0_d1 := hx0_6.drewN n1
      have hx1_d1 := hx1_6.drewN n1
      have hg0_d1 := hg0.drewN n1
      go_wp2_with fail
      refine (toIntS_any _ _ _ _ p0 HN0.out.symm (hR0.below D1) HM0.out).mono ?_
      rintro e v7 ⟨r7, rfl, ht3, b7⟩
      have B7 := bel2 D1 b7
      have hw0_7 := hw0_d1.below b7
      have hx0_7 := hx0_d1.below b7
      have hx1_7 := hx1_d1.below b7
      have hg0_7 := hg0_d1.below b7
      have it3 := ht3.in_
      go_wp2_with fail
      refine (eqIntS_any _ _ _ _ _ _ _ hx0_7 ht3).mono ?_
      rintro e w' ⟨rfl, n2, rfl⟩
      have D2 := belN B7 n2
      have hw0_d2 := hw0_7.drewN n2
      have hx0_d2 := hx0_7.drewN n2
      have hx1_d2 := hx1_7.drewN n2
      have hg0_d2 := hg0_7.drewN n2
      have ht3_d2 := ht3.drewN n2
      go_wp2_with fail
      refine (toIntS_any _ _ _ _ p1 HN1.out.symm (hR1.below D2) HM1.out).mono ?_
      rintro e v8 ⟨r8, rfl, ht4, b8⟩
      have B8 := bel2 D2 b8
      have hw0_8 := hw0_d2.below b8
      have hx0_8 := hx0_d2.below b8
      have hx1_8 := hx1_d2.below b8
      have hg0_8 := hg0_d2.below b8
      have it4 := ht4.in_
      go_wp2_with fail
      refine (eqIntS_any _ _ _ _ _ _ _ hx1_8 ht4).mono ?_
      rintro e w' ⟨rfl, n3, rfl⟩
      have D3 := belN B8 n3
      have hw0_d3 := hw0_8.drewN n3
      have hx0_d3 := hx0_8.drewN n3
      have hx1_d3 := hx1_8.drewN n3
      have hg0_d3 := hg0_8.drewN n3
      have ht4_d3 := ht4.drewN n3
      go_wp2_with fail
      refine (markIntS_any _ _ _ _ _ hx0_d3 (by omega) (HM0.out)).mono ?_
      rintro e v9 ⟨rfl, hx0_m1, gr1, z1⟩
      have Z1 := Lib.hid z1
      clear z1
      have hw0_m1 := hw0_d3.marked iw0 ix0 (.inl (Nat.le_refl _)) gr1
      have hx1_m1 := hx1_d3.marked ix1 ix0 (.inr (Nat.le_refl _)) gr1
      have hg0_m1 := hg0_d3.marked ig0 ix0 (.inr (b5.size)) gr1
      have M1 := belM D3 ix0 B3.size gr1
      clear gr1
      go_wp2_with fail
      refine (markIntS_any _ _ _ _ _ hx1_m1 (by have := HM0.out; have := HM1.out; omega) (HM1.out)).mono ?_
      rintro e v10 ⟨rfl, hx1_m2, gr2, z2⟩
      have Z2 := Lib.hid z2
      clear z2
      have hw0_m2 := hw0_m1.marked iw0 ix1 (.inl (b4.size)) gr2
      have hx0_m2 := hx0_m1.marked ix0 ix1 (.inl (Nat.le_refl _)) gr2
      have hg0_m2 := hg0_m1.marked ig0 ix1 (.inr (Nat.le_refl _)) gr2
      have M2 := belM M1 ix1 B4.size gr2
      clear gr2
      go_wp2_with fail
      refine (eqIntS_any _ _ _ _ _ _ _ hg0_m2 hw0_m2).mono ?_
      rintro e w' ⟨rfl, n4, rfl⟩
      have D4 := belN M2 n4
      have hw0_d4 := hw0_m2.drewN n4
      have hx0_d4 := hx0_m2.drewN n4
      have hx1_d4 := hx1_m2.drewN n4
      have hg0_d4 := hg0_m2.drewN n4
      go_wp2_with fail
      refine (markIntS_any _ _ _ _ _ hg0_d4 (by omega) (Nat.le_trans (pdR_le _ _) (by omega))).mono ?_
      rintro e v11 ⟨rfl, hg0_m3, gr3, z3⟩
      have Z3 := Lib.hid z3
      clear z3
      have hw0_m3 := hw0_d4.marked iw0 ig0 (.inl (Nat.le_trans b4.size (b5.size))) gr3
      have hx0_m3 := hx0_d4.marked ix0 ig0 (.inl (b5.size)) gr3
      have hx1_m3 := hx1_d4.marked ix1 ig0 (.inl (Nat.le_refl _)) gr3
      have M3 := belM D4 ig0 B5.size gr3
      clear gr3
      go_wp2_with fail
      refine (heldIntS_any _ _ _ _ 1 hg0_m3 (by omega) (Nat.le_trans (pdR_le _ _) (by omega))).mono ?_
      rintro e w' ⟨rfl, rfl⟩
      go_wp2_with fail
      refine (toIntS_any _ _ _ _ p0 HN0.out.symm (hR0.below M3) HM0.out).mono ?_
      rintro e v12 ⟨r12, rfl, ht5, b12⟩
      have B12 := bel2 M3 b12
      have hw0_12 := hw0_m3.below b12
      have hx0_12 := hx0_m3.below b12
      have hx1_12 := hx1_m3.below b12
      have hg0_12 := hg0_m3.below b12
      have it5 := ht5.in_
      go_wp2_with fail
      refine (toIntS_any _ _ _ _ p1 HN1.out.symm (hR1.below B12) HM1.out).mono ?_
      rintro e v13 ⟨r13, rfl, ht6, b13⟩
      have B13 := bel2 B12 b13
      have hw0_13 := hw0_12.below b13
      have hx0_13 := hx0_12.below b13
      have hx1_13 := hx1_12.below b13
      have hg0_13 := hg0_12.below b13
      have ht5_13 := ht5.below b13
      have it6 := ht6.in_
      go_wp2_with fail
      refine (implPolyProduct_any _ (N0.out.below B13) _ _ _ _ _ _ ht5_13 ht6).mono ?_
      rintro e v14 ⟨r14, rfl, hh0, b14⟩
      have B14 := bel2 B13 b14
      have hw0_14 := hw0_13.below b14
      have hx0_14 := hx0_13.below b14
      have hx1_14 := hx1_13.below b14
      have hg0_14 := hg0_13.below b14
      have ht5_14 := ht5_13.below b14
      have ht6_14 := ht6.below b14
      have ih0 := hh0.in_
      go_wp2_with fail
      refine (eqIntS_any _ _ _ _ _ _ _ hh0 hw0_14).mono ?_
      rintro e w' ⟨rfl, n5, rfl⟩
      have D5 := belN B14 n5
      have hw0_d5 := hw0_14.drewN n5
      have hx0_d5 := hx0_14.drewN n5
      have hx1_d5 := hx1_14.drewN n5
      have hg0_d5 := hg0_14.drewN n5
      have hh0_d5 := hh0.drewN n5
      go_wp2_with fail
      refine (heldIntS_any _ _ _ _ 1 hg0_d5 (by omega) (Nat.le_trans (pdR_le _ _) (by omega))).mono ?_
      rintro e w' ⟨rfl, rfl⟩
      go_wp2
      go_ret
      exact ⟨rfl, D5⟩
    · go_enter Tryd.func6, Tryd.ntmps6
      go_wp2
      go_ret
      exact ⟨rfl, Below.refl _ _⟩
  · go_enter Tryd.func6, Tryd.ntmps6
    go_wp2
    go_ret
    exact ⟨rfl, Below.refl _ _⟩
end Go.Proofs.YtbhmlfidideemaaDoor.fnExactPolyProduct
