/-
  Means of lists, of the program and of the model; copies and comparisons of fractions: what each call returns.
  Condition: the slice reads as the list that is named.
-/
import Derived.Test.YtinijfkidjakpaaDoorFracC
namespace Go.Proofs.YtinijfkidjakpaaDoor
set_option linter.unusedSimpArgs false
set_option linter.unusedVariables false
open Go.ChangeShapes Go.WideShapes Go.ChangeAt Go.RowKit

/-- The sum of a list. -/
def sumI (zs : List Int) : Int := zs.foldl (· + ·) 0
theorem sumI_next (zs : List Int) (k : Nat) (hk : k < zs.length) : sumI (zs.take (k + 1)) = sumI (zs.take k) + gd zs k := by
  unfold sumI; rw [take_succ_gd zs k hk, List.foldl_append]; rfl
theorem sumI_end (zs : List Int) (k : Nat) (hk : ¬ k < zs.length) : sumI (zs.take k) = sumI zs := by rw [List.take_of_length_le (by omega)]
/-- Has the list a mean. -/
def meanB (zs : List Int) : Bool := inB zs.length 1 40 && zs.all finB
theorem fin_bad (zs : List Int) (k : Nat) (hk : k < zs.length) (h : finB (gd zs k) = false) : zs.all finB = false := by
  rw [List.all_eq_false]
  exact ⟨zs[k], List.getElem_mem hk, by rw [gd_eq zs k hk] at h; simpa using h⟩
theorem fin_next (zs : List Int) (k : Nat) (hk : k < zs.length) (h0 : (zs.take k).all finB = true) (h : finB (gd zs k) = true) : (zs.take (k + 1)).all finB = true := by
  rw [take_succ_gd zs k hk, List.all_append, h0]; simpa using h
theorem fin_end (zs : List Int) (k : Nat) (hk : ¬ k < zs.length) (h0 : (zs.take k).all finB = true) : zs.all finB = true := by
  rwa [List.take_of_length_le (by omega)] at h0
theorem fin_at {zs : List Int} (h : zs.all finB = true) (k : Nat) (hk : k < zs.length) : -1000000 ≤ gd zs k ∧ gd zs k ≤ 1000000 := by
  have := List.all_eq_true.1 h zs[k] (List.getElem_mem hk)
  rw [gd_eq zs k hk]
  exact (finB_iff _).1 this
/-- What lay there before a call lies there behind it: two rules for the walk. -/
theorem cellAt {W w1 : World} (b : Below W.heap.size W w1) : ∀ g k, g < W.heap.size → w1.cell? ⟨g, k, none⟩ = W.cell? ⟨g, k, none⟩ := fun g k h => b.cell (p := ⟨g, k, none⟩) h
theorem frozenAt {W w1 : World} (b : Below W.heap.size W w1) : ∀ g k, g < W.heap.size → w1.frozen? ⟨g, k, none⟩ = W.frozen? ⟨g, k, none⟩ := fun g k h => b.frozen (p := ⟨g, k, none⟩) h
/-- One fraction's box: its two cells. -/
abbrev S2 (w' : World) (g : Nat) (a b : Int) : Prop := w'.cell? ⟨g, 0, none⟩ = some (.int .i64 a) ∧ w'.cell? ⟨g, 1, none⟩ = some (.int .i64 b)
theorem S2.new (w : World) (a b : Int) (t : TypeId) : S2 (w.alloc (.cells #[.int .i64 a, .int .i64 b] t)) w.heap.size a b := by
  refine ⟨?_, ?_⟩ <;> simp [World.cell?_alloc_at]
theorem S2.drew {w : World} {g : Nat} {a b : Int} (h : S2 w g a b) : S2 w.drew g a b := h
theorem S2.below {w w' : World} {g : Nat} {a b : Int} (h : S2 w g a b) (hb : Below w.heap.size w w') : S2 w' g a b := by
  obtain ⟨h1, h2⟩ := h
  have l1 := cell_lt h1
  exact ⟨(cellAt hb g 0 l1).trans h1, (cellAt hb g 1 l1).trans h2⟩
theorem S2.alloc {w : World} {g : Nat} {a b : Int} (h : S2 w g a b) (o : Obj) : S2 (w.alloc o) g a b := h.below ((Below.refl _ _).alloc (Nat.le_refl _) o)
theorem F2.far {w : World} {g h i : Nat} {a b : Int} {v : Value} (H : F2 w g a b) (hn : h ≠ g) : F2 (w.setCell ⟨h, i, none⟩ v) g a b := by
  obtain ⟨h1, h2, h3, h4⟩ := H
  refine ⟨(World.cell?_setCell_other _ _ _ _ (by simp [hn])).trans h1, (World.cell?_setCell_other _ _ _ _ (by simp [hn])).trans h2, ?_, ?_⟩ <;> simp [h3, h4]
end Go.Proofs.YtinijfkidjakpaaDoor
