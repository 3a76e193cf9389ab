/-
  Plane polynomials told, in the model and in the laws.
  Condition: the slice reads as the list that is named.
-/
import Derived.Test.YtibdbgeknphljaaTmG
import Derived.Test.YtibdbgeknphljaaSTerm
import Derived.Test.YtibdbgeknphljaaOpenS
namespace Go.Proofs.Ytibdbgeknphljaa
set_option linter.unusedSimpArgs false
set_option linter.unusedVariables false
open Go.ChangeShapes Go.WideShapes Go.ChangeAt Go.RowKit
open Go.Sort (grow)

theorem specIsPlane_any (w : World) (B : Nat) (v : Value) (l : List Tm) (h : TmS w B v l) : Calls Try.prog 15 #[v] w fun e w' => e = .returned (.bool (plB l)) ∧ Below w.heap.size w w' := by
  go_enter Try.func15, Try.ntmps15
  go_wp2_with fail
  refine (plGood_any _ B _ l h).mono ?_
  rintro e w1 ⟨rfl, b1⟩
  go_wp2
  go_ret
  exact ⟨rfl, b1⟩
end Go.Proofs.Ytibdbgeknphljaa
