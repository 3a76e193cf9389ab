/-
  CompareFracs answers as its model at every two pairs of integers.
  No condition: every four integers of Go's int.
-/
import Derived.Test.YtcnaopgikedgfaaRows
import Derived.WalkKit
import Derived.ProofKit
import Derived.OpenShut
import Derived.ShutString
import Derived.Below
import Derived.Carry
import Derived.Lib.SmallJoins
import Derived.Test.YtcnaopgikedgfaaFracD
import Derived.Deep.RegionHeld3
import Derived.Deep.DeepCutAuto
namespace Go.Proofs.Ytcnaopgikedgfaa.fnExactCompareFracs
set_option linter.unusedSimpArgs false
set_option linter.unusedVariables false
open Go.ChangeShapes Go.WideShapes Go.ChangeAt Go.RowKit
open Go.ChangeMaps (open_string shut_string)
set_option linter.unusedVariables false
theorem walk (a0_0 : Int) (a0_1 : Int) (a1_0 : Int) (a1_1 : Int) (w : World) (w0_0 : (Lit.int .i64 a0_0).wf = true) (w0_1 : (Lit.int .i64 a0_1).wf = true) (w1_0 : (Lit.int .i64 a1_0).wf = true) (w1_1 : (Lit.int .i64 a1_1).wf = true) :
    Calls Try.prog 9 #[.agg #[.int .i64 a0_0, .int .i64 a0_1], .agg #[.int .i64 a1_0, .int .i64 a1_1]] w fun e w' => e = .returned (.bool true) ∧ Below w.heap.size w w' := by
  go_enter Try.func9, Try.ntmps9
  go_wp2_with fail
  go_region_held3 (fun w' => w'.cell? ⟨w.heap.size, 0, none⟩ = some (.int .i64 a0_0) ∧ w'.cell? ⟨w.heap.size, 1, none⟩ = some (.int .i64 a0_1) ∧ w'.cell? ⟨w.heap.size + 1, 0, none⟩ = some (.int .i64 a1_0) ∧ w'.cell? ⟨w.heap.size + 1, 1, none⟩ = some (.int .i64 a1_1)) (repeat' (first | with_reducible exact S4.new _ _ _ _ _ _ _ | with_reducible assumption | with_reducible refine S4.below ?_ (by assumption) | with_reducible refine S4.drew ?_ | with_reducible refine S4.setAt ?_ ?_ _ _ | with_reducible refine S4.setN ?_ _ (by first | omega | (simp; omega)) _ _ | with_reducible refine S4.alloc ?_ _)) (first | (go_at_call 14; refine (toFrac_any _ _ _).mono ?_; rintro e w1 ⟨rfl, rfl⟩) | (go_at_call 27; refine (specCompareFracs_any _ _ _ _ _).mono ?_; rintro e w1 ⟨rfl, b1⟩; have k1 := cellAt b1; have k2 := frozenAt b1))
  go_wp2_with fail
  have hz : w.heap.size < w1.heap.size := by have := b1.size; simp at this; omega
  go_region_held3 (fun w' => w'.cell? ⟨w.heap.size, 0, none⟩ = some (.int .i64 a0_0) ∧ w'.cell? ⟨w.heap.size, 1, none⟩ = some (.int .i64 a0_1) ∧ w'.cell? ⟨w.heap.size + 1, 0, none⟩ = some (.int .i64 a1_0) ∧ w'.cell? ⟨w.heap.size + 1, 1, none⟩ = some (.int .i64 a1_1)) (repeat' (first | with_reducible exact S4.new _ _ _ _ _ _ _ | with_reducible assumption | with_reducible refine S4.below ?_ (by assumption) | with_reducible refine S4.drew ?_ | with_reducible refine S4.setAt ?_ ?_ _ _ | with_reducible refine S4.setN ?_ _ (by first | omega | (simp; omega)) _ _ | with_reducible refine S4.alloc ?_ _)) (first | (go_at_call 14; refine (toFrac_any _ _ _).mono ?_; rintro e w1 ⟨rfl, rfl⟩) | (go_at_call 28; refine (implCompareFracs_any _ _ _ _ _).mono ?_; rintro e w2 ⟨rfl, b2⟩; have k3 := cellAt b2; have k4 := frozenAt b2))
  go_wp2_with fail
  go_ret
  exact ⟨rfl, bel2 (bel2 (by go_grown) b1) (bel2 (by go_grown) b2)⟩
end Go.Proofs.Ytcnaopgikedgfaa.fnExactCompareFracs
