/-
  Texts of lines in the laws: what the laws' walks want.
  No condition.
-/
import Derived.Test.YtglplnpdgammhaaDoorLnU
import Derived.Test.YtglplnpdgammhaaDoorSLine
namespace Go.Proofs.YtglplnpdgammhaaDoor
set_option linter.unusedSimpArgs false
set_option linter.unusedVariables false
open Go.ChangeShapes Go.WideShapes Go.ChangeAt Go.RowKit

theorem T3.newL (w : World) (a b c : Int) : T3 (w.alloc (.cells #[.int .i64 a, .int .i64 b, .int .i64 c] 26)) w.heap.size (a, b, c) := T3.new w (a, b, c) 26
end Go.Proofs.YtglplnpdgammhaaDoor
