/-
  Sums, products, moved and exchanged plane polynomials: the program and the model.
  No condition.
-/
import Derived.Test.YtibdbgeknphljaaPlMove
import Derived.Test.YtibdbgeknphljaaPlSpecB
namespace Go.Proofs.Ytibdbgeknphljaa
set_option linter.unusedSimpArgs false
set_option linter.unusedVariables false
theorem mvPR_le' (l : List Tm) (x y : Int) : (mvPR l x y).length ≤ 1048576 := Nat.le_trans (mvPR_le l x y) (by omega)
end Go.Proofs.Ytibdbgeknphljaa
