/-
  Values of plane polynomials, the places of their least terms, degrees: what the program's and the model's calls return.
  Condition: the slice reads as the list that is named.
-/
import Derived.Test.YtoecjdpeldcajaaGreatPlA
namespace Go.Proofs.YtoecjdpeldcajaaGreat
set_option linter.unusedSimpArgs false
set_option linter.unusedVariables false
open Go.ChangeShapes Go.WideShapes Go.ChangeAt Go.RowKit
open Go.Sort (grow)

theorem one_new_at (w : World) (x : Int) (n : Nat) (hn : n = w.heap.size) : ∀ j u, [Value.int .i64 x][j]? = some u → (w.alloc (.cells #[.int .i64 x] 3)).cell? ((⟨n, 0, none⟩ : Addr).add j) = some u := by
  subst hn
  exact one_new w x
end Go.Proofs.YtoecjdpeldcajaaGreat
