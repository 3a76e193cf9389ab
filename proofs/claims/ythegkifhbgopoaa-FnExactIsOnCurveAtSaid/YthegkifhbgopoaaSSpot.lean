/-
  Slices of the struct Spot in the laws: compared, marked, read again, copied.
  Conditions: the slices are not too long, and read as the cells that are named.
-/
import Derived.Test.YthegkifhbgopoaaCuV
namespace Go.Proofs.Ythegkifhbgopoaa
set_option linter.unusedSimpArgs false
set_option linter.unusedVariables false
open Go.ChangeShapes Go.WideShapes Go.ChangeAt Go.RowKit
open Go.Sort (grow)

end Go.Proofs.Ythegkifhbgopoaa
