/-
  How long the answers are.
  No condition.
-/
import Derived.Test.YtmkijfkkfhhjjaaPgW
import Derived.Test.YtmkijfkkfhhjjaaSPoint
import Derived.Test.YtmkijfkkfhhjjaaOpenS
namespace Go.Proofs.Ytmkijfkkfhhjjaa
set_option linter.unusedSimpArgs false
set_option linter.unusedVariables false

theorem huR_le (l : List Pt) : (huR l).length ≤ 1048576 := by
  unfold huR
  split
  · next h =>
    obtain ⟨h1, h2, -⟩ := (ptsB_iff l).1 h
    have := hul_le (l := l) (by intro e; rw [e] at h1; simp at h1)
    omega
  · simp
theorem edR_le (l : List Pt) : (edR l).length ≤ 1048576 := by
  unfold edR
  split
  · next h =>
    have := (pg_sm h).2.2
    have := edL_le l
    omega
  · simp
theorem sgR_le (a b : List Pt) : (sgR a b).length ≤ 1048576 := by
  unfold sgR
  split
  · next h =>
    obtain ⟨ha, hb, -⟩ := sgB_parts h
    have := (suL_le ha hb).1
    omega
  · simp
end Go.Proofs.Ytmkijfkkfhhjjaa
