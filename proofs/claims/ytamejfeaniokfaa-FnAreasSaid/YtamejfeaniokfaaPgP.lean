/-
  Points of polygons, of the program and of the model: what the calls return.
  Condition: the slice reads as the list that is named.
-/
import Derived.Test.YtamejfeaniokfaaPgM
namespace Go.Proofs.Ytamejfeaniokfaa
set_option linter.unusedSimpArgs false
set_option linter.unusedVariables false
open Go.ChangeShapes Go.WideShapes Go.ChangeAt Go.RowKit
open Go.Sort (grow)

def hpB (l : List Pt) (p : Pt) : Bool := pgB l && ptG p
def hpR (l : List Pt) (p : Pt) : Bool := hpB l p && hasB l p
theorem hp_no1 {l : List Pt} {p : Pt} (h : pgB l = false) : hpB l p = false ∧ hpR l p = false := by unfold hpR hpB; rw [h]; simp
theorem hp_no2 {l : List Pt} {p : Pt} (h : ptG p = false) : hpB l p = false ∧ hpR l p = false := by unfold hpR hpB; rw [h]; simp
theorem hp_yes {l : List Pt} {p : Pt} (h : pgB l = true) (h' : ptG p = true) : hpB l p = true ∧ hpR l p = hasB l p := by unfold hpR hpB; rw [h, h']; simp
theorem has_1 {l : List Pt} {p : Pt} (h : l.length = 1) : hasB l p = eqB (pd l 0) p := by
  unfold hasB; rw [if_pos h]
  rw [Bool.eq_iff_iff, decide_eq_true_iff, eqB_iff]; rfl
theorem has_2 {l : List Pt} {p : Pt} (h : l.length = 2) : hasB l p = (decide (trn (pd l 0) (pd l 1) p = 0) && (decide ((p.1 - (pd l 0).1) * (p.1 - (pd l 1).1) ≤ 0) && decide ((p.2 - (pd l 0).2) * (p.2 - (pd l 1).2) ≤ 0))) := by
  unfold hasB; rw [if_neg (by omega), if_pos h]; rfl
theorem has_no {l : List Pt} {p : Pt} {k : Nat} (h1 : l.length ≠ 1) (h2 : l.length ≠ 2) (hk : k < l.length) (h : trn (pd l k) (nxP l k) p < 0) : hasB l p = false := by
  unfold hasB; rw [if_neg h1, if_neg h2, decide_eq_false_iff_not]
  intro hx
  have : 0 ≤ trn (pd l k) (nxP l k) p := hx k hk
  omega
theorem has_all {l : List Pt} {p : Pt} (h1 : l.length ≠ 1) (h2 : l.length ≠ 2) (h : ∀ k, k < l.length → ¬ trn (pd l k) (nxP l k) p < 0) : hasB l p = true := by
  unfold hasB; rw [if_neg h1, if_neg h2, decide_eq_true_iff]
  intro k hk
  have : ¬ trn (pd l k) (nxP l k) p < 0 := h k hk
  exact Int.not_lt.1 this
def GivesBB (x : Bool) (b : Bool) (w : World) (e : Ending) (w' : World) : Prop := e = .returned (.tuple #[.bool x, .bool b]) ∧ Below w.heap.size w w'
theorem givesBB_no {x b : Bool} {w w' : World} (h1 : x = false) (h2 : b = false) (hb : Below w.heap.size w w') : GivesBB x b w (.returned (.tuple #[.bool false, .bool false])) w' := by
  subst h1; subst h2; exact ⟨rfl, hb⟩
theorem givesBB_yes {x y b : Bool} {w w' : World} (h1 : x = y) (h2 : b = true) (hb : Below w.heap.size w w') : GivesBB x b w (.returned (.tuple #[.bool y, .bool true])) w' := by
  subst h1; subst h2; exact ⟨rfl, hb⟩
theorem S4P.call {x w w' : World} {b : Nat} {r : Pt} (hT : P2 x b r) (h : S4P x b r w) (hb : Below w.heap.size w w') : S4P x b r w' := S4P.of hT (bel2 h.2.2 hb)
theorem ptS_snoc2 {w : World} {B : Nat} {v : Value} {l : List Pt} {t : Pt} (h : w.ownsRow B 35 2 v (l.length + 1) (ints (flatP l ++ encP t))) : PtS w B v (l ++ [t]) := by
  refine ptS_snoc rfl ?_
  unfold ints at h ⊢
  rw [List.map_append] at h
  exact h
theorem hul_app (l : List Pt) (p : Pt) : (l ++ [p]).length = l.length + 1 := by simp
end Go.Proofs.Ytamejfeaniokfaa
