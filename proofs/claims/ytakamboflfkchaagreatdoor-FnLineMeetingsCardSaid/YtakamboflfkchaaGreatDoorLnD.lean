/-
  Lists of lines, and the lines of a list that a point is on: what each call returns.
  Conditions: the slice reads as the list that is named; its integers are Go's.
-/
import Derived.Test.YtakamboflfkchaaGreatDoorLnC
namespace Go.Proofs.YtakamboflfkchaaGreatDoor
set_option linter.unusedSimpArgs false
set_option linter.unusedVariables false
open Go.ChangeShapes Go.WideShapes Go.ChangeAt Go.RowKit
open Go.Sort (grow)

/-- The slice value v is of this call's own and reads as a list of lines. -/
abbrev LnS (w : World) (B : Nat) (v : Value) (l : List Tm) : Prop := FS 24 3 w B v l.length (flatT l)
theorem LnS.parts {w : World} {B : Nat} {v : Value} {l : List Tm} (h : LnS w B v l) : ∃ A cap, v = .slice A l.length cap ∧ l.length ≤ maxLen ∧ ∀ k, k < l.length → ∃ g, A = some ⟨g, 0, none⟩ ∧ X3 w g (k * 3) (td l k) := by
  obtain ⟨A, cap, rfl, hm, hp⟩ := FS.parts h
  refine ⟨A, cap, rfl, hm, fun k hk => ?_⟩
  obtain ⟨g, rfl, c0⟩ := hp (k * 3) (by omega)
  obtain ⟨g', hg, c1⟩ := hp (k * 3 + 1) (by omega)
  cases hg
  obtain ⟨g', hg, c2⟩ := hp (k * 3 + 2) (by omega)
  cases hg
  obtain ⟨e0, e1, e2⟩ := flatT_gd hk
  rw [e0] at c0
  rw [e1] at c1
  rw [e2] at c2
  exact ⟨g, rfl, c0, c1, c2⟩
/-- The places below k of the lines that a point is on. -/
def laL (l : List Tm) (x y : Int) : Nat → List Int
  | 0 => []
  | k + 1 => laL l x y k ++ (if lnO (td l k) x y = true then [(k : Int)] else [])
theorem laL_yes {l : List Tm} {x y : Int} {k : Nat} (h : lnO (td l k) x y = true) : laL l x y (k + 1) = laL l x y k ++ [(k : Int)] := by simp only [laL, if_pos h]
theorem laL_no {l : List Tm} {x y : Int} {k : Nat} (h : lnO (td l k) x y = false) : laL l x y (k + 1) = laL l x y k := by simp [laL, h]
theorem laL_len (l : List Tm) (x y : Int) (k : Nat) : (laL l x y k).length ≤ k := by
  induction k with
  | zero => simp [laL]
  | succ k ih =>
    simp only [laL, List.length_append]
    split <;> simp <;> omega
/-- Are lines asked for at a point. -/
def laB (l : List Tm) (x y : Int) : Bool := decide (l.length ≤ 12) && (lnP x y && l.all lnB)
def laR (l : List Tm) (x y : Int) : List Int := if laB l x y = true then laL l x y l.length else []
theorem laR_yes {l : List Tm} {x y : Int} (h : laB l x y = true) : laR l x y = laL l x y l.length := if_pos h
theorem laR_no {l : List Tm} {x y : Int} (h : laB l x y = false) : laR l x y = [] := if_neg (by simp [h])
theorem laB_no1 {l : List Tm} {x y : Int} (h : ¬ l.length ≤ 12) : laB l x y = false := by simp [laB, h]
theorem laB_no2 {l : List Tm} {x y : Int} (h : lnP x y = false) : laB l x y = false := by simp [laB, h]
theorem laB_no3 {l : List Tm} {x y : Int} {k : Nat} (hk : k < l.length) (h : lnB (td l k) = false) : laB l x y = false := by
  have : l.all lnB = false := by
    rw [List.all_eq_false]
    exact ⟨l[k], List.getElem_mem hk, by rw [td_eq l k hk] at h; simpa using h⟩
  simp [laB, this]
theorem laB_yes {l : List Tm} {x y : Int} (h1 : l.length ≤ 12) (h2 : lnP x y = true) (h3 : ∀ k, k < l.length → lnB (td l k) = true) : laB l x y = true := by
  have : l.all lnB = true := by
    rw [List.all_eq_true]
    intro t ht
    obtain ⟨k, hk, rfl⟩ := List.getElem_of_mem ht
    have := h3 k hk
    rwa [td_eq l k hk] at this
  simp [laB, h1, h2, this]
theorem laR_le (l : List Tm) (x y : Int) : (laR l x y).length ≤ 12 := by
  unfold laR
  split
  · rename_i h
    have : l.length ≤ 12 := by
      unfold laB at h
      simp only [Bool.and_eq_true, decide_eq_true_eq] at h
      exact h.1
    exact Nat.le_trans (laL_len _ _ _ _) this
  · simp
end Go.Proofs.YtakamboflfkchaaGreatDoor
