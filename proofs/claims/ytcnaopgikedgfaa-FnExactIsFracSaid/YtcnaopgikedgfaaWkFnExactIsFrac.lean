/-
  IsFrac answers as its model at every pair of integers.
  No condition: every two integers of Go's int.
-/
import Derived.Test.YtcnaopgikedgfaaRows
import Derived.WalkKit
import Derived.ProofKit
import Derived.OpenShut
import Derived.ShutString
import Derived.Below
import Derived.Carry
import Derived.Lib.SmallJoins
import Derived.Test.YtcnaopgikedgfaaFracD
namespace Go.Proofs.Ytcnaopgikedgfaa.fnExactIsFrac
set_option linter.unusedSimpArgs false
set_option linter.unusedVariables false
open Go.ChangeShapes Go.WideShapes Go.ChangeAt Go.RowKit
open Go.ChangeMaps (open_string shut_string)
set_option linter.unusedVariables false
theorem walk (a0_0 : Int) (a0_1 : Int) (w : World) (w0_0 : (Lit.int .i64 a0_0).wf = true) (w0_1 : (Lit.int .i64 a0_1).wf = true) :
    Calls Try.prog 3 #[.agg #[.int .i64 a0_0, .int .i64 a0_1]] w fun e w' => e = .returned (.bool true) ∧ Below w.heap.size w w' := by
  go_enter Try.func3, Try.ntmps3
  go_wp2_with fail
  refine (toFrac_any _ _ _).mono ?_
  rintro e w' ⟨rfl, rfl⟩
  go_wp2_with fail
  refine (specIsFrac_any _ _ _).mono ?_
  rintro e w1 ⟨rfl, b1⟩
  have k1 := cellAt b1
  have k2 := frozenAt b1
  go_wp2_with fail
  refine (toFrac_any _ _ _).mono ?_
  rintro e w' ⟨rfl, rfl⟩
  go_wp2_with fail
  refine (isFrac_any _ _ _).mono ?_
  rintro e w2 ⟨rfl, b2⟩
  go_wp2_with fail
  go_ret
  exact ⟨rfl, bel2 (bel2 (by go_grown) b1) (bel2 (by go_grown) b2)⟩
end Go.Proofs.Ytcnaopgikedgfaa.fnExactIsFrac
