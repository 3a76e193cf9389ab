/-
  FracOf answers as its model at every two integers.
  No condition: every two integers of Go's int.
-/
import Derived.Test.YtcnaopgikedgfaaRows
import Derived.WalkKit
import Derived.ProofKit
import Derived.OpenShut
import Derived.ShutString
import Derived.Below
import Derived.Carry
import Derived.Lib.SmallJoins
import Derived.Test.YtcnaopgikedgfaaFracD
namespace Go.Proofs.Ytcnaopgikedgfaa.fnExactFracOf
set_option linter.unusedSimpArgs false
set_option linter.unusedVariables false
open Go.ChangeShapes Go.WideShapes Go.ChangeAt Go.RowKit
open Go.ChangeMaps (open_string shut_string)
set_option linter.unusedVariables false
theorem walk (a0 : Int) (a1 : Int) (w : World) (w0 : (Lit.int .i64 a0).wf = true) (w1 : (Lit.int .i64 a1).wf = true) :
    Calls Try.prog 4 #[.int .i64 a0, .int .i64 a1] w fun e w' => e = .returned (.bool true) ∧ Below w.heap.size w w' := by
  go_enter Try.func4, Try.ntmps4
  go_wp2_with fail
  refine (specFracOf_any _ _ _).mono ?_
  rintro e w1 ⟨rfl, b1⟩
  have k1 := cellAt b1
  have k2 := frozenAt b1
  go_wp2_with fail
  refine (implFracOf_any _ _ _).mono ?_
  rintro e w2 ⟨rfl, b2⟩
  have k3 := cellAt b2
  have k4 := frozenAt b2
  have s2 : w1.heap.size < w2.heap.size := by have := b2.size; simp at this; omega
  go_wp2_with fail
  refine (eqFrac_same _ _ _).mono ?_
  rintro e w3 ⟨rfl, b3⟩
  go_wp2_with fail
  go_ret
  exact ⟨rfl, bel2 (bel2 (bel2 (by go_grown) b1) (bel2 (by go_grown) b2)) (bel2 (by go_grown) b3)⟩
end Go.Proofs.Ytcnaopgikedgfaa.fnExactFracOf
