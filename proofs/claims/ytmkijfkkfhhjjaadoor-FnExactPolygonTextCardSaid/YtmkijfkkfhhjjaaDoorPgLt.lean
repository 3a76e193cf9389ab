/-
  PolygonText of both: gathered.
  No condition.
-/
import Derived.Test.YtmkijfkkfhhjjaaDoorPgTx
import Derived.Test.YtmkijfkkfhhjjaaDoorPgTxS
import Derived.Test.YtmkijfkkfhhjjaaDoorSPoint
import Derived.Test.YtmkijfkkfhhjjaaDoorOpenS
namespace Go.Proofs.YtmkijfkkfhhjjaaDoor
set_option linter.unusedSimpArgs false
set_option linter.unusedVariables false
end Go.Proofs.YtmkijfkkfhhjjaaDoor
