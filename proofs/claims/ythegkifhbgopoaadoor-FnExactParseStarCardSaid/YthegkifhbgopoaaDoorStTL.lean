/-
  What the laws of stars' texts want.
  No condition.
-/
import Derived.Test.YthegkifhbgopoaaDoorStTS
import Derived.Test.YthegkifhbgopoaaDoorSRay
namespace Go.Proofs.YthegkifhbgopoaaDoor
set_option linter.unusedSimpArgs false
set_option linter.unusedVariables false
theorem stR_len' (l : List Tm) : (stR l).length ≤ 1048576 := Nat.le_trans (stR_le l) (by omega)
end Go.Proofs.YthegkifhbgopoaaDoor
