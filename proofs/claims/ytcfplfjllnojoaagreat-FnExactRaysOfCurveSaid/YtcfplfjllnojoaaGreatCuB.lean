/-
  A cell by its number, of both.
  Condition: the slice reads as the terms that are named.
-/
import Derived.Test.YtcfplfjllnojoaaGreatCePg
namespace Go.Proofs.YtcfplfjllnojoaaGreat
set_option linter.unusedSimpArgs false
set_option linter.unusedVariables false
open Go.ChangeShapes Go.WideShapes Go.ChangeAt Go.RowKit
open Go.Sort (grow)

theorem ceL_at {l : List Tm} {c : Nat} (hc : c < (ceL l).length) : (ceL l).getD c [] ∈ ceL l := by
  rw [List.getD_eq_getElem?_getD, List.getElem?_eq_getElem hc]; exact List.getElem_mem hc
/-- The cell with a number; none if there is none. -/
def cuR (l : List Tm) (i : Int) : List Int := if cpB l i = true then (ceL l).getD i.toNat [] else []
theorem cuR_yes {l : List Tm} {i : Int} (h : cpB l i = true) : cuR l i = (ceL l).getD i.toNat [] := if_pos h
theorem cuR_no {l : List Tm} {i : Int} (h : cpB l i = false) : cuR l i = [] := if_neg (by simp [h])
theorem cuR_in {l : List Tm} {i : Int} (h : cpB l i = true) : plB l = true ∧ cuR l i ∈ ceL l := by
  rw [cuR_yes h]
  unfold cpB at h
  simp only [Bool.and_eq_true] at h
  obtain ⟨h1, h2⟩ := h
  obtain ⟨h3, h4⟩ := (inB_iff _ _ _).1 h2
  exact ⟨h1, ceL_at (by omega)⟩
def GivesCu (ok : Bool) (x : List Int) (w : World) (e : Ending) (w' : World) : Prop := ∃ r B', e = .returned (.tuple #[r, .bool ok]) ∧ IS w' B' r x ∧ Below w.heap.size w w'
theorem givesCu_no {l : List Tm} {i : Int} {w w' : World} (h : cpB l i = false) (hb : Below w.heap.size w w') : GivesCu (cpB l i) (cuR l i) w (.returned (.tuple #[.slice none 0 0, .bool false])) w' := by
  rw [cuR_no h, h]; exact ⟨_, 0, rfl, IS.nil_ _ _, hb⟩
theorem givesCu_yes {l : List Tm} {i : Int} {w w' : World} {r : Value} {B' : Nat} {zs : List Int} (h : cpB l i = true) (hx : IS w' B' r zs) (hz : zs = cuR l i) (hb : Below w.heap.size w w') : GivesCu (cpB l i) (cuR l i) w (.returned (.tuple #[r, .bool true])) w' := by
  subst hz; rw [h]; exact ⟨_, _, rfl, hx, hb⟩
end Go.Proofs.YtcfplfjllnojoaaGreat
