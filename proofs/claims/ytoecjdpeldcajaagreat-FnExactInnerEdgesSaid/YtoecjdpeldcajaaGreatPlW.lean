/-
  The places of the least terms in the program; degrees: what the calls return.
  Condition: the slice reads as the list that is named.
-/
import Derived.Test.YtoecjdpeldcajaaGreatPlV
namespace Go.Proofs.YtoecjdpeldcajaaGreat
set_option linter.unusedSimpArgs false
set_option linter.unusedVariables false
open Go.ChangeShapes Go.WideShapes Go.ChangeAt Go.RowKit
open Go.Sort (grow)

def moreI (a b : Int) : Int := if a < b then b else a
theorem l1MostP_any (a b : Int) (w : World) : Calls Tryz.prog 45 #[.int .i64 a, .int .i64 b] w fun e w' => e = .returned (.int .i64 (moreI a b)) ∧ w = w' := by
  by_cases h : b < a
  · go_enter Tryz.func45, Tryz.ntmps45
    go_wp2
    go_ret
    exact ⟨ret_i64 (by unfold moreI; split <;> omega), rfl⟩
  · go_enter Tryz.func45, Tryz.ntmps45
    go_wp2
    go_ret
    exact ⟨ret_i64 (by unfold moreI; split <;> omega), rfl⟩
end Go.Proofs.YtoecjdpeldcajaaGreat
