/-
  How often the least of some fractions is there, plain mathematics.
-/
import Derived.Test.YthegkifhbgopoaaCuP
namespace Go.Proofs.Ythegkifhbgopoaa
set_option linter.unusedSimpArgs false
set_option linter.unusedVariables false
open Go.ChangeShapes Go.WideShapes Go.ChangeAt Go.RowKit

/-- Fractions alone. -/
def FrA (V : List Pt) : Prop := ∀ v ∈ V, frB v.1 v.2 = true
def leF (u v : Pt) : Prop := u.1 * v.2 ≤ v.1 * u.2
theorem leF_total (u v : Pt) : leF u v ∨ leF v u := by unfold leF; omega
theorem leF_refl (u : Pt) : leF u u := by unfold leF; omega
theorem leF_trans {u v w : Pt} (hu : frB u.1 u.2 = true) (hv : frB v.1 v.2 = true) (hw : frB w.1 w.2 = true) (h1 : leF u v) (h2 : leF v w) : leF u w :=
  fr_trans (frB_pos hu).1 (frB_pos hv).1 (frB_pos hw).1 h1 h2
theorem leF_eq {u v : Pt} (hu : frB u.1 u.2 = true) (hv : frB v.1 v.2 = true) (h1 : leF u v) (h2 : leF v u) : u = v := by
  unfold leF at *
  have h0 : v.2 ≠ 0 := by have := (frB_pos hv).1; omega
  obtain ⟨-, e1, e2⟩ := mk_uniq (p := v.1) (q := v.2) hu h0 (by omega)
  obtain ⟨-, e3, e4⟩ := mk_uniq (p := v.1) (q := v.2) hv h0 rfl
  exact Prod.ext (e1.symm.trans e3) (e2.symm.trans e4)
/-- The least of the first n, and how often it is there: as the model finds it. -/
def bcF (V : List Pt) : Nat → Pt × Nat
  | 0 => ((0, 0), 0)
  | n + 1 => if n = 0 ∨ (pd V n).1 * (bcF V n).1.2 < (bcF V n).1.1 * (pd V n).2 then (pd V n, 1) else if pd V n = (bcF V n).1 then ((bcF V n).1, (bcF V n).2 + 1) else bcF V n
theorem take_nextP (V : List Pt) {n : Nat} (h : n < V.length) : V.take (n + 1) = V.take n ++ [pd V n] := by
  rw [List.take_add_one, List.getElem?_eq_getElem h, pd_eq V n h]; rfl
theorem bcF_is {V : List Pt} (hV : FrA V) : ∀ n, n ≤ V.length → 0 < n → (bcF V n).1 ∈ V.take n ∧ (∀ v ∈ V.take n, leF (bcF V n).1 v) ∧ (bcF V n).2 = (V.take n).count (bcF V n).1
  | 0, _, h => by omega
  | n + 1, h, _ => by
    have hv : frB (pd V n).1 (pd V n).2 = true := hV _ (by rw [pd_eq V n (by omega)]; exact List.getElem_mem _)
    rw [take_nextP V (by omega)]
    by_cases h0 : n = 0
    · subst h0
      have e : bcF V 1 = (pd V 0, 1) := by rw [bcF]; simp
      rw [e]
      refine ⟨by simp, fun v hm => ?_, by simp⟩
      simp at hm
      rw [hm]; exact leF_refl _
    · obtain ⟨i1, i2, i3⟩ := bcF_is hV n (by omega) (by omega)
      have hb : frB (bcF V n).1.1 (bcF V n).1.2 = true := hV _ (List.mem_of_mem_take i1)
      by_cases h1 : (pd V n).1 * (bcF V n).1.2 < (bcF V n).1.1 * (pd V n).2
      · have e : bcF V (n + 1) = (pd V n, 1) := by rw [bcF, if_pos (.inr h1)]
        have hle : leF (pd V n) (bcF V n).1 := by unfold leF; omega
        rw [e]
        refine ⟨by simp, fun v hm => ?_, ?_⟩
        · rcases List.mem_append.1 hm with hm | hm
          · exact leF_trans hv hb (hV _ (List.mem_of_mem_take hm)) hle (i2 v hm)
          · simp at hm; rw [hm]; exact leF_refl _
        · have hz : (V.take n).count (pd V n) = 0 := by
            rw [List.count_eq_zero]
            intro hm
            have := i2 _ hm
            unfold leF at this; omega
          rw [List.count_append, hz]; simp
      · by_cases h2 : pd V n = (bcF V n).1
        · have e : bcF V (n + 1) = ((bcF V n).1, (bcF V n).2 + 1) := by rw [bcF, if_neg (by simp [h0]; omega), if_pos h2]
          rw [e]
          refine ⟨List.mem_append.2 (.inl i1), fun v hm => ?_, ?_⟩
          · rcases List.mem_append.1 hm with hm | hm
            · exact i2 v hm
            · simp at hm; rw [hm, h2]; exact leF_refl _
          · show (bcF V n).2 + 1 = _
            rw [List.count_append, i3, h2]; simp
        · have e : bcF V (n + 1) = bcF V n := by rw [bcF, if_neg (by simp [h0]; omega), if_neg h2]
          rw [e]
          refine ⟨List.mem_append.2 (.inl i1), fun v hm => ?_, ?_⟩
          · rcases List.mem_append.1 hm with hm | hm
            · exact i2 v hm
            · simp at hm; rw [hm]; unfold leF; omega
          · rw [List.count_append, ← i3]
            have : [pd V n].count (bcF V n).1 = 0 := by
              rw [List.count_eq_zero]; simp; exact fun e => h2 e.symm
            omega
/-- Is the least there twice. -/
def twB (V : List Pt) : Bool := decide (1 < (bcF V V.length).2)
/-- In order, the first two are the same. -/
theorem twB_sorted {V d : List Pt} (hV : FrA V) (hp : d.Perm V) (hs : d.Pairwise fun a b => a.1 * b.2 ≤ b.1 * a.2) (h0 : 0 < V.length) : twB V = decide (1 < V.length ∧ pd d 0 = pd d 1) := by
  obtain ⟨i1, i2, i3⟩ := bcF_is hV V.length (Nat.le_refl _) h0
  rw [List.take_length] at i1 i2 i3
  have hd : FrA d := fun v hv => hV v (hp.mem_iff.1 hv)
  have hlen := hp.length_eq
  unfold twB
  rw [i3, ← hp.count_eq]
  generalize (bcF V V.length).1 = m at *
  have m1 : m ∈ d := hp.mem_iff.2 i1
  have m2 : ∀ v ∈ d, leF m v := fun v hv => i2 v (hp.mem_iff.1 hv)
  clear i1 i2 i3
  match d, hs, hlen, hd, m1, m2 with
  | [], _, hlen, _, _, _ => simp at hlen; omega
  | [a], _, hlen, _, m1, _ =>
    simp at hlen m1
    simp [← hlen, m1]
  | a :: b :: r, hs, hlen, hd, m1, m2 =>
    have ha : a = m := by
      rcases List.mem_cons.1 m1 with h | h
      · exact h.symm
      · exact leF_eq (hd a (by simp)) (hd m m1) ((List.pairwise_cons.1 hs).1 m h) (m2 a (by simp))
    subst ha
    have hl : 1 < V.length := by simp at hlen; omega
    simp only [hl, true_and]
    show decide (1 < (a :: b :: r).count a) = decide (a = b)
    by_cases hab : a = b
    · subst hab
      simp
    · have : r.count a = 0 := by
        rw [List.count_eq_zero]
        intro hm
        have hbr := (List.pairwise_cons.1 (List.pairwise_cons.1 hs).2).1 a hm
        exact hab (leF_eq (hd a (by simp)) (hd b (by simp)) (m2 b (by simp)) hbr)
      have hc : (a :: b :: r).count a = 1 := by
        rw [List.count_cons_self, List.count_cons_of_ne (fun e => hab e.symm), this]
      rw [hc]; simp [hab]
/-- The least is there twice if two of all are it. -/
theorem twB_two {V : List Pt} (hV : FrA V) {i j : Nat} (hij : i < j) (hj : j < V.length) (he : pd V i = pd V j) (hm : ∀ v ∈ V, leF (pd V i) v) : twB V = true := by
  obtain ⟨i1, i2, i3⟩ := bcF_is hV V.length (Nat.le_refl _) (by omega)
  rw [List.take_length] at i1 i2 i3
  have hi : pd V i ∈ V := by rw [pd_eq V i (by omega)]; exact List.getElem_mem _
  have e : (bcF V V.length).1 = pd V i := leF_eq (hV _ i1) (hV _ hi) (i2 _ hi) (hm _ i1)
  unfold twB
  rw [i3, e, decide_eq_true_eq]
  have h1 : 0 < (V.take j).count (pd V i) := by
    rw [List.count_pos_iff]
    rw [pd_eq V i (by omega)]
    exact List.mem_take_iff_getElem.2 ⟨i, by omega, rfl⟩
  have h2 : 0 < (V.drop j).count (pd V i) := by
    rw [List.count_pos_iff, he, pd_eq V j hj]
    exact List.mem_drop_iff_getElem.2 ⟨0, by omega, by simp⟩
  have e2 : ∀ m : Pt, V.count m = (V.take j).count m + (V.drop j).count m := fun m => by
    rw [← List.count_append, List.take_append_drop]
  rw [e2]; omega
end Go.Proofs.Ythegkifhbgopoaa
