/-
  The points of the exponents: what the program's and the model's calls return.
  Condition: the slice reads as the list that is named.
-/
import Derived.Test.YthegkifhbgopoaaPlA
import Derived.Test.YthegkifhbgopoaaPt
import Derived.Test.YthegkifhbgopoaaPg
import Derived.Test.YthegkifhbgopoaaSTerm
namespace Go.Proofs.Ythegkifhbgopoaa
set_option linter.unusedSimpArgs false
set_option linter.unusedVariables false
open Go.ChangeShapes Go.WideShapes Go.ChangeAt Go.RowKit
open Go.Sort (grow)

theorem ptsL_len (l : List Tm) : (ptsL l).length = l.length := by simp [ptsL]
theorem ptq_next (l : List Tm) (k : Nat) (hk : k < l.length) : ptsL (l.take (k + 1)) = ptsL (l.take k) ++ [((td l k).1, (td l k).2.1)] := by
  rw [take_td l k hk]; simp [ptsL]
theorem ptsR_no {l : List Tm} (h : plB l = false) : ptsR l = [] := if_neg (by simp [h])
theorem ptsR_yes {l : List Tm} (h : plB l = true) : ptsR l = ptsL l := if_pos h
theorem ptsR_le (l : List Tm) : (ptsR l).length ≤ 12 := by
  cases h : plB l
  · rw [ptsR_no h]; simp
  · rw [ptsR_yes h, ptsL_len]; exact (plB_le h).2
end Go.Proofs.Ythegkifhbgopoaa
