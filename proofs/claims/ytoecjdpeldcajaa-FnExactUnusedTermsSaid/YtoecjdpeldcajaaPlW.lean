/-
  The places of the least terms in the program; degrees: what the calls return.
  Condition: the slice reads as the list that is named.
-/
import Derived.Test.YtoecjdpeldcajaaPlV
namespace Go.Proofs.Ytoecjdpeldcajaa
set_option linter.unusedSimpArgs false
set_option linter.unusedVariables false
open Go.ChangeShapes Go.WideShapes Go.ChangeAt Go.RowKit
open Go.Sort (grow)

end Go.Proofs.Ytoecjdpeldcajaa
