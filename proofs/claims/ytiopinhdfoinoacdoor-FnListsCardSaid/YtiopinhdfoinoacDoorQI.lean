/-
  Lists of integers compared in the drawn laws.
  Conditions: both slices read as the list that is named.
-/
import Derived.Test.YtiopinhdfoinoacDoorList
import Derived.Deep.DeepCutAuto
namespace Go.Proofs.YtiopinhdfoinoacDoor
set_option linter.unusedSimpArgs false
set_option linter.unusedVariables false
open Go.ChangeShapes Go.WideShapes Go.ChangeAt Go.RowKit

end Go.Proofs.YtiopinhdfoinoacDoor
