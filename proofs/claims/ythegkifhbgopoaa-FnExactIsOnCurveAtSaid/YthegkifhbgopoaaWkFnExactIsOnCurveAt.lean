/-
  IsOnCurveAt answers as its model at every argument, and leaves the list as it was.
  No condition: every slice of terms (nil and too long ones too) and every spot of four integers.
-/
import Derived.Test.YthegkifhbgopoaaRows
import Derived.WalkKit
import Derived.ProofKit
import Derived.OpenShut
import Derived.ShutString
import Derived.Below
import Derived.Carry
import Derived.Lib.SmallJoins
import Derived.SizedLaws
import Derived.Test.YthegkifhbgopoaaToSp
import Derived.Deep.RegionHeld3
import Derived.Deep.DeepCutAuto
namespace Go.Proofs.Ythegkifhbgopoaa.fnExactIsOnCurveAt
set_option linter.unusedSimpArgs false
set_option linter.unusedVariables false
open Go.ChangeShapes Go.WideShapes Go.ChangeAt Go.RowKit
open Go.ChangeMaps (open_string shut_string)
set_option linter.unusedVariables false
theorem walk (a0 : Option Addr) (len0 cap0 : Nat) (z0 : List Int) (a1_0 : Int) (a1_1 : Int) (a1_2 : Int) (a1_3 : Int) (w : World) (w0 : IsRowF 3 w a0 len0 z0) (w1_0 : (Lit.int .i64 a1_0).wf = true) (w1_1 : (Lit.int .i64 a1_1).wf = true) (w1_2 : (Lit.int .i64 a1_2).wf = true) (w1_3 : (Lit.int .i64 a1_3).wf = true) :
    Calls Try.prog 3 #[.slice a0 len0 cap0, .agg #[.int .i64 a1_0, .int .i64 a1_1, .int .i64 a1_2, .int .i64 a1_3]] w fun e w' => e = .returned (.bool true) ∧ Below w.heap.size w w' := by
  obtain ⟨hn0, hmx0, hR0⟩ := w0
  obtain ⟨l0, hl0, hf0⟩ := flatT_of _ _ hn0
  subst hf0
  subst hl0
  clear hn0
  unfold maxLen at hmx0
  have hS := QB.new w a1_0 a1_1 a1_2 a1_3 26 hR0
  have b00 : Below w.heap.size w (w.alloc (.cells #[.int .i64 a1_0, .int .i64 a1_1, .int .i64 a1_2, .int .i64 a1_3] 26)) := (Below.refl _ _).alloc (Nat.le_refl _) _
  by_cases hb0 : l0.length ≤ 1048576
  · have HM0 := Lib.hid (show l0.length ≤ 1048576 by omega)
    go_enter Try.func3, Try.ntmps3
    go_wp2_with fail
    refine (szTermS_any _ _ _ _ 1048576 (by omega) (by have := HM0.out; omega)).mono ?_
    rintro e w' ⟨rfl, rfl⟩
    rw [if_neg (show ¬ 1048576 - (l0.length : Int) < 0 by have := HM0.out; omega)]
    go_upto_region 5 with fail
    go_cut [3, 6, 7] (fun q x y wx => q = .pointer (some ⟨w.heap.size, 0, none⟩) ∧ x = .bool (onR l0 a1_0 a1_1 a1_2 a1_3) ∧ y = .bool (onB l0 a1_0 a1_1 a1_2 a1_3) ∧ QB wx w.heap.size a1_0 a1_1 a1_2 a1_3 a0 (flatT l0) ∧ Below w.heap.size w wx)
    case first =>
      go_region_held3 (fun w' => w'.cell? ⟨w.heap.size, 0, none⟩ = some (.int .i64 a1_0) ∧ w'.cell? ⟨w.heap.size, 1, none⟩ = some (.int .i64 a1_1) ∧ w'.cell? ⟨w.heap.size, 2, none⟩ = some (.int .i64 a1_2) ∧ w'.cell? ⟨w.heap.size, 3, none⟩ = some (.int .i64 a1_3) ∧ RD w' a0 (flatT l0)) (repeat' (first | with_reducible assumption | with_reducible refine QB.drew ?_ | with_reducible refine QB.below ?_ b2 | with_reducible refine QB.below ?_ b1 | with_reducible refine QB.below ?_ bF)) (first | (go_at_call 16; refine (toTermS_any _ _ _ _ _ (flatT_len _) (by first | (rename_i hX; exact hX.2.2.2.2) | exact hS.2.2.2.2) HM0.out).mono ?_; rintro e v1 ⟨r1, rfl, ht, b1⟩; have k1 := cellAt b1) | (go_at_call 17; refine (toSpot_b _ _ _ _ _).mono ?_; rintro e x1 ⟨rfl, bF⟩; have kF := cellAt bF; (first | (have htF := ht.below bF) | skip)) | (go_at_call 15; refine (specIsOn_any _ _ _ _ _ _ _ _ (by first | exact htF | exact ht)).mono ?_; rintro e x2 ⟨rfl, b2⟩; have k2 := cellAt b2))
      all_goals go_wp2_with fail
      all_goals go_meet
      all_goals
        refine ⟨rfl, rfl, rfl, by assumption, ?_⟩
        first
        | exact bel2 (bel2 (bel2 b00.drew b1) bF) b2
        | exact bel2 (bel2 (bel2 b00.drew bF) b1) b2
    case rest =>
      obtain ⟨rfl, rfl, rfl, hS1, B1⟩ := hcut
      go_wp2_with fail
      refine (toTermS_any _ _ _ _ _ (flatT_len _) hS1.2.2.2.2 HM0.out).mono ?_
      rintro e v3 ⟨r3, rfl, hx0, b3⟩
      have B3 := bel2 B1 b3
      obtain ⟨c0, c1, c2, c3, -⟩ := hS1.below b3
      go_wp2_with fail
      refine (toSpot_b _ _ _ _ _).mono ?_
      rintro e v4 ⟨rfl, b4⟩
      have B4 := bel2 B3 b4
      go_wp2_with fail
      refine (implIsOn_any _ _ _ _ _ _ _ _ (hx0.below b4)).mono ?_
      rintro e v5 ⟨rfl, b5⟩
      have B5 := bel2 B4 b5
      have hx5 := (hx0.below b4).below b5
      generalize onR l0 a1_0 a1_1 a1_2 a1_3 = rr
      generalize onB l0 a1_0 a1_1 a1_2 a1_3 = rb
      clear c0 c1 c2 c3
      go_wp2_with fail
      refine (toTermS_any _ _ _ _ _ (flatT_len _) (hR0.below B5) HM0.out).mono ?_
      rintro e v6 ⟨r6, rfl, ht2, b6⟩
      have B6 := bel2 B5 b6
      go_wp2_with fail
      refine (eqTermS_same _ _ _ _ _ _ _ (hx5.below b6) ht2).mono ?_
      rintro e v7 ⟨rfl, b7⟩
      have B7 := bel2 B6 b7
      go_wp2
      go_ret
      exact ⟨rfl, B7⟩
  · go_enter Try.func3, Try.ntmps3
    go_wp2_with fail
    refine (szTermS_any _ _ _ _ 1048576 (by omega) (by omega)).mono ?_
    rintro e w' ⟨rfl, rfl⟩
    rw [if_pos (show 1048576 - (l0.length : Int) < 0 by omega)]
    go_wp2
    go_ret
    exact ⟨rfl, b00⟩
end Go.Proofs.Ythegkifhbgopoaa.fnExactIsOnCurveAt
