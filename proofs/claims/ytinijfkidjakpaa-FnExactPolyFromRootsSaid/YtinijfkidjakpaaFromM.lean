/-
  Polynomials of given roots: plain mathematics.
  No condition: lists of integers.
-/
import Derived.Test.YtinijfkidjakpaaSort
import Derived.Test.YtinijfkidjakpaaFracD
import Derived.Test.YtinijfkidjakpaaPolyM
namespace Go.Proofs.Ytinijfkidjakpaa
set_option linter.unusedSimpArgs false
set_option linter.unusedVariables false
open Go.RowKit

/-- The lead, and the first k of the roots. -/
def sm (lead : Int) (s : List Int) (k : Nat) : Int := lead + sumI (s.take k)
def pfL (lead : Int) (zs : List Int) : List Int := tab (fun j => sm lead (sortL zs) (zs.length - j)) (zs.length + 1)
def pfIn (lead : Int) (zs : List Int) : Bool := finB lead && (zs.all finB && decide (zs.length ≤ 12))
def pfAll (lead : Int) (zs : List Int) : Bool := (tab (sm lead (sortL zs)) (zs.length + 1)).all finB
def pfOk (lead : Int) (zs : List Int) : Bool := pfIn lead zs && pfAll lead zs
def pfR (lead : Int) (zs : List Int) : List Int := if pfOk lead zs = true then pfL lead zs else []
theorem pfR_yes {lead : Int} {zs : List Int} (h : pfOk lead zs = true) : pfR lead zs = pfL lead zs := if_pos h
theorem pfR_no {lead : Int} {zs : List Int} (h : pfOk lead zs = false) : pfR lead zs = [] := if_neg (by simp [h])
theorem pfL_len (lead : Int) (zs : List Int) : (pfL lead zs).length = zs.length + 1 := tab_len _ _
theorem pf_in {lead : Int} {zs : List Int} (h : pfIn lead zs = true) : (-1000000 ≤ lead ∧ lead ≤ 1000000) ∧ zs.all finB = true ∧ zs.length ≤ 12 := by
  unfold pfIn at h
  rw [Bool.and_eq_true, Bool.and_eq_true] at h
  exact ⟨(finB_iff _).1 h.1, h.2.1, of_decide_eq_true h.2.2⟩
theorem pfR_le (lead : Int) (zs : List Int) : (pfR lead zs).length ≤ 13 := by
  unfold pfR; split
  · rename_i h
    unfold pfOk at h
    rw [Bool.and_eq_true] at h
    have := (pf_in h.1).2.2
    rw [pfL_len]; omega
  · simp
theorem sm_zero (lead : Int) (s : List Int) : sm lead s 0 = lead := by simp [sm, sumI]
theorem sm_next {lead : Int} {s : List Int} {k : Nat} (hk : k < s.length) : sm lead s (k + 1) = sm lead s k + gd s k := by unfold sm; rw [sumI_next s k hk]; omega
theorem sort_fin {zs : List Int} (h : zs.all finB = true) {k : Nat} (hk : k < zs.length) : -1000000 ≤ gd (sortL zs) k ∧ gd (sortL zs) k ≤ 1000000 := by
  have hm := gd_mem (zs := sortL zs) (k := k) (by rw [sortL_len]; exact hk)
  have := (sortL_perm zs).mem_iff.1 hm
  exact (finB_iff _).1 (List.all_eq_true.1 h _ this)
theorem sm_bd {lead : Int} {zs : List Int} (h : pfIn lead zs = true) : ∀ k, k ≤ zs.length → -(1000000 * ((k : Int) + 1)) ≤ sm lead (sortL zs) k ∧ sm lead (sortL zs) k ≤ 1000000 * ((k : Int) + 1)
  | 0, _ => by rw [sm_zero]; have := (pf_in h).1; omega
  | k + 1, hk => by
    have ih := sm_bd h k (by omega)
    have := sort_fin (pf_in h).2.1 (k := k) (by omega)
    rw [sm_next (by rw [sortL_len]; omega)]
    omega
theorem sm_num {lead : Int} {zs : List Int} (h : pfIn lead zs = true) {k : Nat} (hk : k ≤ zs.length) : numB (sm lead (sortL zs) k) = finB (sm lead (sortL zs) k) := by
  have h1 := sm_bd h k hk
  have h2 := (pf_in h).2.2
  unfold numB finB
  have : (sm lead (sortL zs) k == 1000000000) = false := by simp; omega
  rw [this, Bool.false_or]
/-- The first k from the greatest exponent on are laid. -/
def rowK (lead : Int) (s : List Int) (n k : Nat) : List Int := tab (fun j => if n < j + k then sm lead s (n - j) else 0) (n + 1)
theorem rowK_len (lead : Int) (s : List Int) (n k : Nat) : (rowK lead s n k).length = n + 1 := tab_len _ _
theorem tab_set' (f : Nat → Int) (n k : Nat) (x : Int) : (tab f n).set k x = tab (fun j => if j = k then x else f j) n := by
  refine List.ext_getElem (by simp [tab_len]) fun i h1 h2 => ?_
  simp only [List.getElem_set]
  by_cases e : k = i
  · subst e; simp [tab]
  · rw [if_neg e]; simp [tab, Ne.symm e]
theorem rowK_set {lead : Int} {s : List Int} {n k : Nat} (hk : k ≤ n) : (rowK lead s n k).set (n - k) (sm lead s k) = rowK lead s n (k + 1) := by
  unfold rowK
  rw [tab_set']
  refine tab_ext fun j hj => ?_
  by_cases e : j = n - k
  · rw [if_pos e, if_pos (by omega)]; congr 1; omega
  · rw [if_neg e]
    by_cases h1 : n < j + k
    · rw [if_pos h1, if_pos (by omega)]
    · rw [if_neg h1, if_neg (by omega)]
theorem rowK_zero (lead : Int) (s : List Int) (n : Nat) : rowK lead s n 0 = List.replicate (n + 1) 0 := by
  refine List.ext_getElem (by simp [rowK, tab_len]) fun i h1 h2 => ?_
  have : i < n + 1 := by simpa using h2
  simp [rowK, tab]
  intro h; omega
theorem rowK_end (lead : Int) (zs : List Int) : rowK lead (sortL zs) zs.length (zs.length + 1) = pfL lead zs := by
  unfold rowK pfL
  exact tab_ext fun j hj => by rw [if_pos (by omega)]
/-- It is a polynomial just if all its coefficients are numbers. -/
theorem po_pf {lead : Int} {zs : List Int} (h : pfIn lead zs = true) : poB (pfL lead zs) = pfAll lead zs := by
  obtain ⟨hl, hz, hn⟩ := pf_in h
  have e1 : (pfL lead zs).all numB = pfAll lead zs := by
    rw [Bool.eq_iff_iff]
    unfold pfL pfAll tab
    simp only [List.all_map, List.all_eq_true, List.mem_range, Function.comp]
    constructor
    · intro h1 k hk
      have := h1 (zs.length - k) (by omega)
      rw [show zs.length - (zs.length - k) = k by omega] at this
      rwa [← sm_num h (by omega)]
    · intro h1 k hk
      rw [sm_num h (by omega)]
      exact h1 (zs.length - k) (by omega)
  have e2 : gd (pfL lead zs) zs.length = lead := by unfold pfL; rw [tab_gd _ (by omega), Nat.sub_self, sm_zero]
  unfold poB
  rw [e1, pfL_len, Nat.add_sub_cancel, e2]
  cases pfAll lead zs
  · simp
  · simp [inB]; omega
end Go.Proofs.Ytinijfkidjakpaa
