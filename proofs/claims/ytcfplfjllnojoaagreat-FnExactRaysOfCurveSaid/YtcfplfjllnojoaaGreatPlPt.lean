/-
  The points of the exponents: what the program's and the model's calls return.
  Condition: the slice reads as the list that is named.
-/
import Derived.Test.YtcfplfjllnojoaaGreatPlA
import Derived.Test.YtcfplfjllnojoaaGreatPt
import Derived.Test.YtcfplfjllnojoaaGreatPg
import Derived.Test.YtcfplfjllnojoaaGreatSTerm
namespace Go.Proofs.YtcfplfjllnojoaaGreat
set_option linter.unusedSimpArgs false
set_option linter.unusedVariables false
open Go.ChangeShapes Go.WideShapes Go.ChangeAt Go.RowKit
open Go.Sort (grow)

theorem ptsL_len (l : List Tm) : (ptsL l).length = l.length := by simp [ptsL]
theorem ptq_next (l : List Tm) (k : Nat) (hk : k < l.length) : ptsL (l.take (k + 1)) = ptsL (l.take k) ++ [((td l k).1, (td l k).2.1)] := by
  rw [take_td l k hk]; simp [ptsL]
theorem ptsR_no {l : List Tm} (h : plB l = false) : ptsR l = [] := if_neg (by simp [h])
theorem ptsR_yes {l : List Tm} (h : plB l = true) : ptsR l = ptsL l := if_pos h
theorem ptsR_le (l : List Tm) : (ptsR l).length ≤ 12 := by
  cases h : plB l
  · rw [ptsR_no h]; simp
  · rw [ptsR_yes h, ptsL_len]; exact (plB_le h).2
theorem pointOf_any (t : Tm) (w : World) : Calls Tryz.prog 68 #[tmV t] w fun e w' => e = .returned (ptV (t.1, t.2.1)) ∧ Gr w w' := by
  obtain ⟨a, b, c⟩ := t
  go_enter Tryz.func68, Tryz.ntmps68
  go_wp2
  refine bodyPost_ret (P2.result (t := (a, b)) (g := w.heap.size + 1) ?_ rfl rfl) rfl ⟨rfl, gr2 _ _ _⟩
  have := P2.new (w.alloc (.cells #[.int .i64 a, .int .i64 b, .int .i64 c] 42)) (a, b) 64
  rwa [World.size_alloc] at this
end Go.Proofs.YtcfplfjllnojoaaGreat
