/-
  Lines in the laws: what the laws' walks want.
  No condition.
-/
import Derived.Test.YtglplnpdgammhaaLnD
import Derived.Test.YtglplnpdgammhaaSLine
namespace Go.Proofs.Ytglplnpdgammhaa
set_option linter.unusedSimpArgs false
set_option linter.unusedVariables false
open Go.ChangeShapes Go.WideShapes Go.ChangeAt Go.RowKit

theorem T3.newL (w : World) (a b c : Int) : T3 (w.alloc (.cells #[.int .i64 a, .int .i64 b, .int .i64 c] 25)) w.heap.size (a, b, c) := T3.new w (a, b, c) 25
/-- A line and whether it is one; what was before stays. -/
def GivesLB (t : Tm) (b : Bool) (w : World) (e : Ending) (w' : World) : Prop := e = .returned (.tuple #[tmV t, .bool b]) ∧ Below w.heap.size w w'
theorem GivesL.b {t : Tm} {b : Bool} {w w' : World} {e : Ending} (h : GivesL t b w e w') : GivesLB t b w e w' := ⟨h.1, h.2.below⟩
theorem wfT_rows {l : List Tm} (h : ∀ x ∈ flatT l, (Lit.int .i64 x).wf = true) : ∀ k, k < l.length → wfT (td l k) := by
  intro k hk
  have hm : ∀ i, i < 3 → gd (flatT l) (k * 3 + i) ∈ flatT l := by
    intro i hi
    have hl : k * 3 + i < (flatT l).length := by rw [flatT_len]; omega
    rw [gd_eq _ _ hl]
    exact List.getElem_mem hl
  obtain ⟨e0, e1, e2⟩ := flatT_gd hk
  have h0 := h _ (hm 0 (by omega))
  have h1 := h _ (hm 1 (by omega))
  rw [Nat.add_zero, e0] at h0
  rw [e1] at h1
  exact wfT_lit (c := (td l k).2.2) h0 h1
end Go.Proofs.Ytglplnpdgammhaa
