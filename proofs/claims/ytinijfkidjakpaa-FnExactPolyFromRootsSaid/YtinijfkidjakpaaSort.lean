/-
  Small lists sorted: by insertion, in Go's library and in the model: what each call returns.
  Conditions: the slice reads as the list that is named, of at most twelve integers.
-/
import Derived.Test.YtinijfkidjakpaaTrop
import Derived.Test.YtinijfkidjakpaaRow
namespace Go.Proofs.Ytinijfkidjakpaa
set_option linter.unusedSimpArgs false
set_option linter.unusedVariables false
open Go.ChangeShapes Go.WideShapes Go.ChangeAt Go.RowKit

/-! ### Plain mathematics -/
/-- The element at j goes down as long as the one below it is greater. -/
def sink (xs : List Int) : Nat → List Int
  | 0 => xs
  | j + 1 => if gd xs (j + 1) < gd xs j then sink ((xs.set (j + 1) (gd xs j)).set j (gd xs (j + 1))) j else xs
/-- The first i + 1 elements sorted, by insertion. -/
def isrt (xs : List Int) : Nat → List Int
  | 0 => xs
  | i + 1 => sink (isrt xs i) (i + 1)
def sortL (xs : List Int) : List Int := isrt xs (xs.length - 1)
theorem swap_perm {xs : List Int} {j : Nat} (h : j + 1 < xs.length) : ((xs.set (j + 1) (gd xs j)).set j (gd xs (j + 1))).Perm xs := by
  have := @List.set_set_perm Int xs (j + 1) j h (by omega)
  rwa [← gd_eq xs j (by omega), ← gd_eq xs (j + 1) h] at this
theorem sink_len : ∀ (j : Nat) (xs : List Int), (sink xs j).length = xs.length
  | 0, _ => rfl
  | j + 1, xs => by unfold sink; split <;> simp [sink_len j]
theorem isrt_len (xs : List Int) : ∀ i, (isrt xs i).length = xs.length
  | 0 => rfl
  | i + 1 => by unfold isrt; rw [sink_len, isrt_len xs i]
theorem sortL_len (xs : List Int) : (sortL xs).length = xs.length := isrt_len _ _
theorem sink_perm : ∀ (j : Nat) (xs : List Int), j < xs.length → (sink xs j).Perm xs
  | 0, _, _ => List.Perm.refl _
  | j + 1, xs, h => by
    unfold sink; split
    · exact (sink_perm j _ (by simp; omega)).trans (swap_perm h)
    · exact List.Perm.refl _
theorem isrt_perm (xs : List Int) : ∀ i, i < xs.length → (isrt xs i).Perm xs
  | 0, _ => List.Perm.refl _
  | i + 1, h => (sink_perm (i + 1) _ (by rw [isrt_len]; exact h)).trans (isrt_perm xs i (by omega))
theorem gd_set {xs : List Int} {i j : Nat} {x : Int} (hi : i < xs.length) : gd (xs.set i x) j = if i = j then x else gd xs j := by
  unfold gd
  simp only [List.getD_eq_getElem?_getD, List.getElem?_set]
  by_cases e : i = j
  · subst e; simp [hi]
  · simp [e]
/-- Sorted up to i, but for the element at j, which is not greater than those behind it. -/
def Near (xs : List Int) (i j : Nat) : Prop := (∀ a b, a < b → b ≤ i → a ≠ j → b ≠ j → gd xs a ≤ gd xs b) ∧ (∀ b, j < b → b ≤ i → gd xs j ≤ gd xs b)
theorem sink_near : ∀ (j : Nat) (xs : List Int) (i : Nat), j ≤ i → i < xs.length → Near xs i j → ∀ a b, a < b → b ≤ i → gd (sink xs j) a ≤ gd (sink xs j) b
  | 0, xs, i, _, _, h, a, b, hab, hb => by
    unfold sink
    by_cases e : a = 0
    · subst e; exact h.2 b hab hb
    · exact h.1 a b hab hb e (by omega)
  | j + 1, xs, i, hj, hi, h, a, b, hab, hb => by
    unfold sink
    by_cases hc : gd xs (j + 1) < gd xs j
    · rw [if_pos hc]
      have hg : ∀ k, gd ((xs.set (j + 1) (gd xs j)).set j (gd xs (j + 1))) k = if j = k then gd xs (j + 1) else if j + 1 = k then gd xs j else gd xs k := fun k => by
        rw [gd_set (by simp; omega), gd_set (by omega)]
      refine sink_near j _ i (by omega) (by simp; exact hi) ⟨fun x y hxy hy hx1 hy1 => ?_, fun y hy1 hy2 => ?_⟩ a b hab hb
      · rw [hg, hg, if_neg (Ne.symm hx1), if_neg (Ne.symm hy1)]
        by_cases e1 : j + 1 = x
        · rw [if_pos e1, if_neg (by omega)]
          exact h.1 j y (by omega) hy (by omega) (by omega)
        · rw [if_neg e1]
          by_cases e2 : j + 1 = y
          · rw [if_pos e2]; exact h.1 x j (by omega) (by omega) (by omega) (by omega)
          · rw [if_neg e2]; exact h.1 x y hxy hy (by omega) (by omega)
      · rw [hg, hg, if_pos rfl, if_neg (by omega)]
        by_cases e2 : j + 1 = y
        · rw [if_pos e2]; omega
        · rw [if_neg e2]; exact h.2 y (by omega) hy2
    · rw [if_neg hc]
      by_cases e1 : a = j + 1
      · subst e1; exact h.2 b hab hb
      · by_cases e2 : b = j + 1
        · subst e2
          by_cases e3 : a = j
          · subst e3; omega
          · have := h.1 a j (by omega) (by omega) e1 (by omega); omega
        · exact h.1 a b hab hb e1 e2
theorem isrt_sorted (xs : List Int) : ∀ i, i < xs.length → ∀ a b, a < b → b ≤ i → gd (isrt xs i) a ≤ gd (isrt xs i) b
  | 0, _, a, b, hab, hb => by omega
  | i + 1, hi, a, b, hab, hb => by
    have ih := isrt_sorted xs i (by omega)
    refine sink_near (i + 1) (isrt xs i) (i + 1) (Nat.le_refl _) (by rw [isrt_len]; exact hi) ⟨fun x y hxy hy hx1 hy1 => ih x y hxy (by omega), fun y h1 h2 => by omega⟩ a b hab hb
theorem sortL_perm (xs : List Int) : (sortL xs).Perm xs := by
  cases xs with
  | nil => exact List.Perm.refl _
  | cons a t => exact isrt_perm _ _ (by simp)
theorem sortL_pw (xs : List Int) : (sortL xs).Pairwise (· ≤ ·) := by
  rw [List.pairwise_iff_getElem]
  intro i j hi hj hij
  have hl := sortL_len xs
  rw [← gd_eq _ i hi, ← gd_eq _ j hj]
  unfold sortL
  exact isrt_sorted xs (xs.length - 1) (by omega) i j hij (by omega)
/-- Put before the first that is not less. -/
def insI (r : Int) : List Int → List Int
  | [] => [r]
  | a :: l => if a < r then a :: insI r l else r :: a :: l
def insL (xs : List Int) : List Int := xs.foldl (fun s r => insI r s) []
theorem insI_perm (r : Int) : ∀ l, (insI r l).Perm (r :: l)
  | [] => List.Perm.refl _
  | a :: l => by
    unfold insI; split
    · exact ((insI_perm r l).cons a).trans (List.Perm.swap r a l)
    · exact List.Perm.refl _
theorem insI_pw (r : Int) : ∀ l : List Int, l.Pairwise (· ≤ ·) → (insI r l).Pairwise (· ≤ ·)
  | [], _ => by simp [insI]
  | a :: l, h => by
    rw [List.pairwise_cons] at h
    unfold insI; split
    · rename_i hlt
      rw [List.pairwise_cons]
      refine ⟨fun x hx => ?_, insI_pw r l h.2⟩
      rcases List.mem_cons.1 ((insI_perm r l).mem_iff.1 hx) with rfl | hx
      · omega
      · exact h.1 x hx
    · rename_i hge
      rw [List.pairwise_cons, List.pairwise_cons]
      refine ⟨fun x hx => ?_, h⟩
      rcases List.mem_cons.1 hx with rfl | hx
      · omega
      · have := h.1 x hx; omega
theorem insI_len (r : Int) (l : List Int) : (insI r l).length = l.length + 1 := by have := (insI_perm r l).length_eq; simpa using this
theorem insL_snoc (xs : List Int) (r : Int) : insL (xs ++ [r]) = insI r (insL xs) := by unfold insL; rw [List.foldl_append]; rfl
theorem insL_both : ∀ xs : List Int, (insL xs).Perm xs ∧ (insL xs).Pairwise (· ≤ ·) := by
  intro xs
  have h : ∀ (xs s : List Int), s.Pairwise (· ≤ ·) → ((xs.foldl (fun s r => insI r s) s).Perm (s ++ xs)) ∧ (xs.foldl (fun s r => insI r s) s).Pairwise (· ≤ ·) := by
    intro xs
    induction xs with
    | nil => intro s hs; simpa using hs
    | cons a t ih =>
      intro s hs
      obtain ⟨h1, h2⟩ := ih (insI a s) (insI_pw a s hs)
      refine ⟨h1.trans ?_, h2⟩
      refine ((insI_perm a s).append_right t).trans ?_
      exact (List.perm_middle (a := a) (l₁ := s) (l₂ := t)).symm
  have := h xs [] List.Pairwise.nil
  simpa [insL] using this
theorem insL_eq (xs : List Int) : insL xs = sortL xs := by
  obtain ⟨h1, h2⟩ := insL_both xs
  exact List.Perm.eq_of_pairwise (le := (· ≤ ·)) (fun a b _ _ h h' => Int.le_antisymm h h') h2 (sortL_pw xs) (h1.trans (sortL_perm xs).symm)
end Go.Proofs.Ytinijfkidjakpaa
