/-
  LinesAt answers as its model at every argument, leaves the lists as they were, and answers in memory of its own.
  No condition: every line, every slice of lines (nil and too long ones too) and every integer.
-/
import Derived.Test.YtglplnpdgammhaaRows
import Derived.WalkKit
import Derived.ProofKit
import Derived.OpenShut
import Derived.ShutString
import Derived.Below
import Derived.Carry
import Derived.Lib.SmallJoins
import Derived.SizedLaws
import Derived.Test.YtglplnpdgammhaaLnL
namespace Go.Proofs.Ytglplnpdgammhaa.fnExactLinesAt
set_option linter.unusedSimpArgs false
set_option linter.unusedVariables false
open Go.ChangeShapes Go.WideShapes Go.ChangeAt Go.RowKit
open Go.ChangeMaps (open_string shut_string)
set_option linter.unusedVariables false
theorem walk (a0 : Option Addr) (len0 cap0 : Nat) (z0 : List Int) (a1 : Int) (a2 : Int) (w : World) (w0 : IsRowF 3 w a0 len0 z0) (f0 : ∀ x ∈ z0, (Lit.int .i64 x).wf = true) (w1 : (Lit.int .i64 a1).wf = true) (w2 : (Lit.int .i64 a2).wf = true) :
    Calls Try.prog 11 #[.slice a0 len0 cap0, .int .i64 a1, .int .i64 a2] w fun e w' => e = .returned (.bool true) ∧ Below w.heap.size w w' := by
  obtain ⟨hn0, hmx0, hR0⟩ := w0
  obtain ⟨l0, hl0, hf0⟩ := flatT_of _ _ hn0
  subst hf0
  subst hl0
  have HWF := Lib.hid (wfT_rows f0)
  clear f0
  clear hn0
  unfold maxLen at hmx0
  by_cases hb0 : l0.length ≤ 1048576
  · have HM0 := Lib.hid (show l0.length ≤ 1048576 by omega)
    go_enter Try.func11, Try.ntmps11
    go_wp2_with fail
    refine (szLineS_any _ _ _ _ 1048576 (by omega) (by have := HM0.out; omega)).mono ?_
    rintro e w' ⟨rfl, rfl⟩
    rw [if_neg (show ¬ 1048576 - (l0.length : Int) < 0 by have := HM0.out; omega)]
    go_wp2_with fail
    refine (toLineS_any _ _ _ _ _ (flatT_len _) hR0 HM0.out).mono ?_
    rintro e v1 ⟨r1, rfl, ht1, b1⟩
    have B1 := b1
    have it1 := ht1.in_
    go_wp2_with fail
    refine (specLinesAt_any _ _ _ _ _ _ ht1).mono ?_
    rintro e v2 ⟨r2, rfl, hw0, b2⟩
    have B2 := bel2 B1 b2
    have ht1_2 := ht1.below b2
    have iw0 := hw0.in_
    go_wp2_with fail
    refine (toLineS_any _ _ _ _ _ (flatT_len _) (hR0.below B2) HM0.out).mono ?_
    rintro e v3 ⟨r3, rfl, hx0, b3⟩
    have B3 := bel2 B2 b3
    have hw0_3 := hw0.below b3
    have ix0 := hx0.in_
    go_wp2_with fail
    refine (implLinesAt_any _ _ _ _ _ _ (HWF.out) hx0).mono ?_
    rintro e v4 ⟨r4, rfl, hg0, b4⟩
    have B4 := bel2 B3 b4
    have hw0_4 := hw0_3.below b4
    have hx0_4 := hx0.below b4
    have ig0 := hg0.in_
    go_wp2_with fail
    refine (eqIntS_any _ _ _ _ _ _ _ hg0 hw0_4).mono ?_
    rintro e w' ⟨rfl, n1, rfl⟩
    have D1 := belN B4 n1
    have hw0_d1 := hw0_4.drewN n1
    have hx0_d1 := hx0_4.drewN n1
    have hg0_d1 := hg0.drewN n1
    go_wp2_with fail
    refine (toLineS_any _ _ _ _ _ (flatT_len _) (hR0.below D1) HM0.out).mono ?_
    rintro e v5 ⟨r5, rfl, ht2, b5⟩
    have B5 := bel2 D1 b5
    have hw0_5 := hw0_d1.below b5
    have hx0_5 := hx0_d1.below b5
    have hg0_5 := hg0_d1.below b5
    have it2 := ht2.in_
    go_wp2_with fail
    refine (eqLineS_same _ _ _ _ _ _ _ hx0_5 ht2).mono ?_
    rintro e v6 ⟨rfl, b6⟩
    have B6 := bel2 B5 b6
    have hw0_6 := hw0_5.below b6
    have hx0_6 := hx0_5.below b6
    have hg0_6 := hg0_5.below b6
    have ht2_6 := ht2.below b6
    go_wp2_with fail
    refine (markLineS_any _ _ _ _ _ _ hx0_6 (by omega) (HM0.out)).mono ?_
    rintro e v7 ⟨rfl, hx0_m1, gr1, z1⟩
    have Z1 := Lib.hid z1
    clear z1
    have hw0_m1 := hw0_6.marked iw0 ix0 (.inl (Nat.le_refl _)) gr1
    have hg0_m1 := hg0_6.marked ig0 ix0 (.inr (Nat.le_refl _)) gr1
    have M1 := belM B6 ix0 B2.size gr1
    clear gr1
    go_wp2_with fail
    refine (eqIntS_any _ _ _ _ _ _ _ hg0_m1 hw0_m1).mono ?_
    rintro e w' ⟨rfl, n2, rfl⟩
    have D2 := belN M1 n2
    have hw0_d2 := hw0_m1.drewN n2
    have hx0_d2 := hx0_m1.drewN n2
    have hg0_d2 := hg0_m1.drewN n2
    go_wp2_with fail
    refine (markIntS_any _ _ _ _ _ hg0_d2 (by omega) (Nat.le_trans (laR_le _ _ _) (by omega))).mono ?_
    rintro e v8 ⟨rfl, hg0_m2, gr2, z2⟩
    have Z2 := Lib.hid z2
    clear z2
    have hw0_m2 := hw0_d2.marked iw0 ig0 (.inl (b3.size)) gr2
    have hx0_m2 := hx0_d2.marked ix0 ig0 (.inl (Nat.le_refl _)) gr2
    have M2 := belM D2 ig0 B3.size gr2
    clear gr2
    go_wp2_with fail
    refine (heldIntS_any _ _ _ _ 1 hg0_m2 (by omega) (Nat.le_trans (laR_le _ _ _) (by omega))).mono ?_
    rintro e w' ⟨rfl, rfl⟩
    go_wp2_with fail
    refine (toLineS_any _ _ _ _ _ (flatT_len _) (hR0.below M2) HM0.out).mono ?_
    rintro e v9 ⟨r9, rfl, ht3, b9⟩
    have B9 := bel2 M2 b9
    have hw0_9 := hw0_m2.below b9
    have hx0_9 := hx0_m2.below b9
    have hg0_9 := hg0_m2.below b9
    have it3 := ht3.in_
    go_wp2_with fail
    refine (implLinesAt_any _ _ _ _ _ _ (HWF.out) ht3).mono ?_
    rintro e v10 ⟨r10, rfl, hh0, b10⟩
    have B10 := bel2 B9 b10
    have hw0_10 := hw0_9.below b10
    have hx0_10 := hx0_9.below b10
    have hg0_10 := hg0_9.below b10
    have ht3_10 := ht3.below b10
    have ih0 := hh0.in_
    go_wp2_with fail
    refine (eqIntS_any _ _ _ _ _ _ _ hh0 hw0_10).mono ?_
    rintro e w' ⟨rfl, n3, rfl⟩
    have D3 := belN B10 n3
    have hw0_d3 := hw0_10.drewN n3
    have hx0_d3 := hx0_10.drewN n3
    have hg0_d3 := hg0_10.drewN n3
    have hh0_d3 := hh0.drewN n3
    go_wp2_with fail
    refine (heldIntS_any _ _ _ _ 1 hg0_d3 (by omega) (Nat.le_trans (laR_le _ _ _) (by omega))).mono ?_
    rintro e w' ⟨rfl, rfl⟩
    go_wp2
    go_ret
    exact ⟨rfl, D3⟩
  · go_enter Try.func11, Try.ntmps11
    go_wp2_with fail
    refine (szLineS_any _ _ _ _ 1048576 (by omega) (by omega)).mono ?_
    rintro e w' ⟨rfl, rfl⟩
    rw [if_pos (show 1048576 - (l0.length : Int) < 0 by omega)]
    go_wp2
    go_ret
    exact ⟨rfl, Below.refl _ _⟩
end Go.Proofs.Ytglplnpdgammhaa.fnExactLinesAt
