/-
  Tables in the laws: what the law's walk wants.
  No condition.
-/
import Derived.Test.YtijmnbgmpakllaaMpT
import Derived.Test.YtijmnbgmpakllaaSsRay
namespace Go.Proofs.Ytijmnbgmpakllaa
set_option linter.unusedSimpArgs false
set_option linter.unusedVariables false
open Go.ChangeShapes Go.WideShapes Go.ChangeAt Go.RowKit

theorem lists_tm : ∀ (Z : List (List Int)), (∀ z ∈ Z, ∃ n, z.length = n * 3) → ∃ L : List (List Tm), Z = L.map flatT
  | [], _ => ⟨[], rfl⟩
  | z :: Z, h => by
    obtain ⟨n, hn⟩ := h z (List.mem_cons_self ..)
    obtain ⟨L, hL⟩ := lists_tm Z fun y hy => h y (List.mem_cons_of_mem _ hy)
    obtain ⟨l, -, hl⟩ := flatT_of n z hn
    exact ⟨l :: L, by rw [List.map_cons, hl, hL]⟩
theorem rows_tm {w : World} {A : Option Addr} {n : Nat} {Z : List (List Int)} (h : IsRowS 3 w A n Z) : ∃ L : List (List Tm), Z = L.map flatT :=
  lists_tm Z fun z hz => by
    obtain ⟨j, hj, rfl⟩ := List.getElem_of_mem hz
    obtain ⟨ad, A', m, c, -, -, -, hr⟩ := h.2.2 j (by rw [← h.1]; exact hj)
    have := hr.1
    rw [List.getD_eq_getElem?_getD, List.getElem?_eq_getElem hj] at this
    exact ⟨m, this⟩
theorem few_mt {L : List (List Tm)} {P : VL} (h : lls P = mtTab L) : FewL P := by
  have hl := lls_len P
  have hm : ∀ p ∈ P, p.2 ∈ lls P := fun p hp => List.mem_map.2 ⟨p, hp, rfl⟩
  rw [h] at hl hm
  cases hq : mtOk L
  · rw [mtTab_no hq] at hl hm
    exact ⟨by rw [← hl]; simp, fun p hp => by have := hm p hp; simp at this⟩
  · have h6 : L.length ≤ 6 := by
      unfold mtOk at hq
      rw [Bool.and_eq_true] at hq
      exact of_decide_eq_true hq.1
    rw [mtTab_yes hq] at hl hm
    rw [List.length_map] at hl
    refine ⟨by omega, fun p hp => ?_⟩
    obtain ⟨a, -, he⟩ := List.mem_map.1 (hm p hp)
    rw [← he, mtRow_len]
    omega
end Go.Proofs.Ytijmnbgmpakllaa
