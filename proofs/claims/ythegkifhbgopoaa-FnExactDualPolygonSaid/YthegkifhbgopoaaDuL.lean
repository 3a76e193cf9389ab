/-
  What the law of DualPolygon wants.
  No condition.
-/
import Derived.Test.YthegkifhbgopoaaDuU
import Derived.Test.YthegkifhbgopoaaStL
namespace Go.Proofs.Ythegkifhbgopoaa
set_option linter.unusedSimpArgs false
set_option linter.unusedVariables false
theorem duR_len (l : List Tm) : (duR l).length ≤ 1048576 := duR_le l
end Go.Proofs.Ythegkifhbgopoaa
