/-
  Areas and points of the boundary and inside, of the program and of the model: what the calls return.
  Conditions: the slice reads as the list that is named; coordinates are small where a contract names them.
-/
import Derived.Test.YtoecjdpeldcajaaGreatPgE
namespace Go.Proofs.YtoecjdpeldcajaaGreat
set_option linter.unusedSimpArgs false
set_option linter.unusedVariables false
open Go.ChangeShapes Go.WideShapes Go.ChangeAt Go.RowKit
open Go.Sort (grow)

end Go.Proofs.YtoecjdpeldcajaaGreat
