/-
  What the law of ParseStar wants.
  No condition.
-/
import Derived.Test.YthegkifhbgopoaaDoorStParse
import Derived.Test.YthegkifhbgopoaaDoorStTL
namespace Go.Proofs.YthegkifhbgopoaaDoor
set_option linter.unusedSimpArgs false
set_option linter.unusedVariables false
theorem plpR_len (l : List UInt8) : (plpR l).length ≤ 1048576 := Nat.le_trans (plpR_le l) (by omega)
end Go.Proofs.YthegkifhbgopoaaDoor
