/-
  Plane polynomials told, in the model and in the laws.
  Condition: the slice reads as the list that is named.
-/
import Derived.Test.YtoecjdpeldcajaaGreatTmG
import Derived.Test.YtoecjdpeldcajaaGreatSTerm
import Derived.Test.YtoecjdpeldcajaaGreatOpenS
namespace Go.Proofs.YtoecjdpeldcajaaGreat
set_option linter.unusedSimpArgs false
set_option linter.unusedVariables false
open Go.ChangeShapes Go.WideShapes Go.ChangeAt Go.RowKit
open Go.Sort (grow)

end Go.Proofs.YtoecjdpeldcajaaGreat
