/-
  FracText answers as its model at every pair of integers.
  No condition but that the table of Go's library holds what the library's text lays there (the card ties it).
-/
import Derived.Test.YtcnaopgikedgfaaDoorRows
import Derived.WalkKit
import Derived.ProofKit
import Derived.OpenShut
import Derived.ShutString
import Derived.Below
import Derived.Carry
import Derived.Lib.SmallJoins
import Derived.MakeChecks
import Derived.OpenVars
import Derived.LaidMore
import Derived.Stop.Joined
import Derived.Lib.LaidTab
import Derived.Test.YtcnaopgikedgfaaDoorFracE
namespace Go.Proofs.YtcnaopgikedgfaaDoor.fnExactFracText
set_option linter.unusedSimpArgs false
set_option linter.unusedVariables false
open Go.ChangeShapes Go.WideShapes Go.ChangeAt Go.RowKit
open Go.ChangeMaps (open_string shut_string)
set_option linter.unusedVariables false
/-- What the condition gives: the table's cells. -/
theorem laid_of {W : World} (h : laidMetH Tryd.prog Rows.fnExactFracTextRow.laid W) : Pows W := by
  rw [MakeChecks.laidMetH_plain _ _ _ (by kernel_rfl)] at h
  exact pows_of_laid (laidMet.tail (laidMet.tail h))

theorem walk (a0_0 : Int) (a0_1 : Int) (w : World) (w0_0 : (Lit.int .i64 a0_0).wf = true) (w0_1 : (Lit.int .i64 a0_1).wf = true) (hN : Pows w) :
    Calls Tryd.prog 3 #[.agg #[.int .i64 a0_0, .int .i64 a0_1]] w fun e w' => e = .returned (.bool true) ∧ Below w.heap.size w w' := by
  go_enter Tryd.func3, Tryd.ntmps3
  go_wp2_with fail
  refine (toFrac_any _ _ _).mono ?_
  rintro e w' ⟨rfl, rfl⟩
  go_wp2_with fail
  refine (specFracText_any _ _ _).mono ?_
  rintro e w1 ⟨rfl, b1⟩
  have k1 := cellAt b1
  have k2 := frozenAt b1
  have c0 := bel2 (w := w) (by go_grown) b1
  go_wp2_with fail
  refine (toFrac_any _ _ _).mono ?_
  rintro e w' ⟨rfl, rfl⟩
  go_wp2_with fail
  refine (implFracText_any _ _ _ (hN.below (bel2 c0 (by go_grown)))).mono ?_
  rintro e w2 ⟨rfl, b2⟩
  go_wp2_with fail
  go_ret
  exact ⟨rfl, bel2 (bel2 c0 (by go_grown)) b2⟩
end Go.Proofs.YtcnaopgikedgfaaDoor.fnExactFracText
