/-
  Rays in boxes, for the laws.
  No condition.
-/
import Derived.Test.YthegkifhbgopoaaStB
import Derived.Test.YthegkifhbgopoaaSRay
import Derived.Test.YthegkifhbgopoaaSTerm
namespace Go.Proofs.Ythegkifhbgopoaa
set_option linter.unusedSimpArgs false
set_option linter.unusedVariables false
open Go.ChangeShapes Go.WideShapes Go.ChangeAt Go.RowKit

theorem T3.newR (w : World) (a b c : Int) : T3 (w.alloc (.cells #[.int .i64 a, .int .i64 b, .int .i64 c] 39)) w.heap.size (a, b, c) := T3.new w (a, b, c) 39
theorem stR_len (l : List Tm) : (stR l).length ≤ 1048576 := Nat.le_trans (stR_le l) (by omega)
end Go.Proofs.Ythegkifhbgopoaa
