/-
  Lines, points on them, and where they meet: plain mathematics of the drawn laws; and lists of integers compared in the laws.
  Conditions: as named.
-/
import Derived.Test.YtakamboflfkchaaGreatDoorLnC
namespace Go.Proofs.YtakamboflfkchaaGreatDoor
set_option linter.unusedSimpArgs false
set_option linter.unusedVariables false
open Go.ChangeShapes Go.WideShapes Go.ChangeAt Go.RowKit
open Go.Sort (grow)

theorem places3 (p q r : Int) (m : Int) (hm : leastL [p, q, r] = m) : (places [p, q, r]).length = (if p = m then 1 else 0) + (if q = m then 1 else 0) + (if r = m then 1 else 0) := by
  unfold places
  rw [hm]
  show (plc [p, q, r] m 3).length = _
  simp only [plc, List.length_append, gd, List.getD_cons_zero, List.getD_cons_succ, beq_iff_eq, List.length_nil]
  by_cases h1 : p = m <;> by_cases h2 : q = m <;> by_cases h3 : r = m <;> simp [h1, h2, h3]
/-- The least of three values is there twice. -/
def twice (p q r : Int) : Prop := (p = q ∧ p ≤ r) ∨ (p = r ∧ p ≤ q) ∨ (q = r ∧ q ≤ p)
theorem on_of {t : Tm} {x y : Int} (hx : t.1 + x < 1000000000) (hy : t.2.1 + y < 1000000000) (hz : t.2.2 < 1000000000) (h : twice (t.1 + x) (t.2.1 + y) t.2.2) : lnO t x y = true := by
  have hm := least3_is hx hy hz
  have hl := places3 (t.1 + x) (t.2.1 + y) t.2.2 _ hm
  obtain ⟨h1, h2, h3, h4⟩ := least3_le (t.1 + x) (t.2.1 + y) t.2.2
  unfold lnO
  have e : (lnT t x y).length = (places [t.1 + x, t.2.1 + y, t.2.2]).length := rfl
  rw [decide_eq_true_iff, e, hl]
  unfold twice at h
  generalize least3 (t.1 + x) (t.2.1 + y) t.2.2 = m at h1 h2 h3 h4
  by_cases g1 : t.1 + x = m <;> by_cases g2 : t.2.1 + y = m <;> by_cases g3 : t.2.2 = m <;> simp [g1, g2, g3] <;> omega
/-- At its center all three terms of a line are the least. -/
theorem center_all {t : Tm} (h : ceB t = true) : lnA t (ceX t) (ceY t) = true ∧ (lnTR t (ceX t) (ceY t)).length = 3 := by
  obtain ⟨e1, e2⟩ := ceXY_yes h
  have hb : lnB t = true ∧ lnP (t.2.2 - t.1) (t.2.2 - t.2.1) = true := by unfold ceB at h; simpa only [Bool.and_eq_true] using h
  have hp := lnB_parts hb.1
  have hA : lnA t (ceX t) (ceY t) = true := by rw [e1, e2]; unfold lnA; rw [hb.1, hb.2]; rfl
  refine ⟨hA, ?_⟩
  rw [lnTR_yes hA, e1, e2]
  have e : (lnT t (t.2.2 - t.1) (t.2.2 - t.2.1)).length = (places [t.1 + (t.2.2 - t.1), t.2.1 + (t.2.2 - t.2.1), t.2.2]).length := rfl
  have x1 : t.1 + (t.2.2 - t.1) = t.2.2 := by omega
  have x2 : t.2.1 + (t.2.2 - t.2.1) = t.2.2 := by omega
  rw [e, x1, x2, places3 t.2.2 t.2.2 t.2.2 t.2.2 (by rw [least3_is (by omega) (by omega) (by omega)]; unfold least3; simp)]
  simp
theorem on_len (t : Tm) (x y : Int) : lnOR t x y = decide (1 < (lnTR t x y).length) := by
  cases h : lnA t x y
  · rw [lnOR_no h, lnTR_no h]; rfl
  · rw [lnOR_yes h, lnTR_yes h]; rfl
/-- The line through two points goes through both. -/
theorem through_both {x y u v : Int} (h : thB x y u v = true) : lnB (thR x y u v) = true ∧ lnA (thR x y u v) x y = true ∧ lnOR (thR x y u v) x y = true ∧ lnA (thR x y u v) u v = true ∧ lnOR (thR x y u v) u v = true := by
  have hh : lnP x y = true ∧ lnP u v = true ∧ lnB (thL x y u v) = true := by unfold thB at h; simpa only [Bool.and_eq_true] using h
  obtain ⟨h1, h2, h3⟩ := hh
  have e : thR x y u v = thL x y u v := if_pos h
  rw [e]
  have p1 := lnP_parts h1
  have p2 := lnP_parts h2
  have a1 : lnA (thL x y u v) x y = true := by unfold lnA; rw [h1, h3]; rfl
  have a2 : lnA (thL x y u v) u v = true := by unfold lnA; rw [h2, h3]; rfl
  have b := lnB_parts h3
  refine ⟨h3, a1, ?_, a2, ?_⟩
  · rw [lnOR_yes a1]
    refine on_of (by omega) (by omega) (by omega) ?_
    unfold twice thL lessI
    simp only
    split <;> split <;> split <;> omega
  · rw [lnOR_yes a2]
    refine on_of (by omega) (by omega) (by omega) ?_
    unfold twice thL lessI
    simp only
    split <;> split <;> split <;> omega
theorem thR_wf (x y u v : Int) : wfT (thR x y u v) := by
  unfold thR
  split
  · rename_i h
    have hh : lnP x y = true ∧ lnP u v = true ∧ lnB (thL x y u v) = true := by unfold thB at h; simpa only [Bool.and_eq_true] using h
    exact wfT_of hh.2.2
  · exact ⟨rfl, rfl⟩
/-- Two lines meet on both. -/
theorem meet_both {l m : Tm} (h : mpB l m = true) : (lnA l (mpXR l m) (mpYR l m) = true ∧ lnOR l (mpXR l m) (mpYR l m) = true) ∧ lnA m (mpXR l m) (mpYR l m) = true ∧ lnOR m (mpXR l m) (mpYR l m) = true := by
  have hh : lnB l = true ∧ lnB m = true ∧ lnP (mpX l m) (mpY l m) = true := by unfold mpB at h; simpa only [Bool.and_eq_true] using h
  obtain ⟨h1, h2, h3⟩ := hh
  have e1 : mpXR l m = mpX l m := if_pos h
  have e2 : mpYR l m = mpY l m := if_pos h
  rw [e1, e2]
  have a1 : lnA l (mpX l m) (mpY l m) = true := by unfold lnA; rw [h1, h3]; rfl
  have a2 : lnA m (mpX l m) (mpY l m) = true := by unfold lnA; rw [h2, h3]; rfl
  have b1 := lnB_parts h1
  have b2 := lnB_parts h2
  have p := lnP_parts h3
  refine ⟨⟨a1, ?_⟩, a2, ?_⟩
  · rw [lnOR_yes a1]
    refine on_of (by omega) (by omega) (by omega) ?_
    unfold twice mpX mpY mpR lessI
    split <;> split <;> split <;> omega
  · rw [lnOR_yes a2]
    refine on_of (by omega) (by omega) (by omega) ?_
    unfold twice mpX mpY mpR lessI
    split <;> split <;> split <;> omega
theorem mvTR_wf (t : Tm) (x y : Int) : wfT (mvTR t x y) := by
  unfold mvTR
  split
  · rename_i h
    have hh : lnA t x y = true ∧ lnB (mvT t x y) = true := by unfold mvTB at h; simpa only [Bool.and_eq_true] using h
    exact wfT_of hh.2
  · exact ⟨rfl, rfl⟩
/-- A moved line has a moved center. -/
theorem moved_center {t : Tm} {x y : Int} (h : mvTB t x y = true) (h1 : ceB t = true) (h2 : ceB (mvTR t x y) = true) : ceX (mvTR t x y) = ceX t + x ∧ ceY (mvTR t x y) = ceY t + y := by
  have e : mvTR t x y = mvT t x y := if_pos h
  obtain ⟨a1, a2⟩ := ceXY_yes h1
  obtain ⟨b1, b2⟩ := ceXY_yes h2
  rw [a1, a2, b1, b2, e]
  unfold mvT
  simp only
  omega
end Go.Proofs.YtakamboflfkchaaGreatDoor
