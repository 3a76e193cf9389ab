/-
  Texts of numbers: their lengths, and sums of texts.
  Conditions: the numbers and lengths that are named.
-/
import Derived.Test.YtiopinhdfoinoaaGreatDoorParse
namespace Go.Proofs.YtiopinhdfoinoaaGreatDoor
set_option linter.unusedSimpArgs false
set_option linter.unusedVariables false
open Go.ChangeShapes Go.WideShapes Go.ChangeAt Go.RowKit

theorem dec_sh (u : Nat) (h : u ≤ 1000000000) : (Lib.decDigits u).length ≤ 10 := dec_len 9 u (by omega)
theorem itoa_sh (n : Int) (h : -1000000000 ≤ n ∧ n ≤ 1000000000) : (Lib.itoa n).length ≤ 11 := by
  by_cases hn : n < 0
  · obtain ⟨u, hu⟩ : ∃ u : Nat, -n = u := ⟨n.natAbs, by omega⟩
    have := Lib.itoa_neg u (by omega)
    rw [show -(u : Int) = n by omega] at this
    rw [this, List.length_cons]
    have := dec_sh u (by omega)
    omega
  · obtain ⟨u, rfl⟩ : ∃ u : Nat, n = u := ⟨n.toNat, by omega⟩
    rw [Lib.itoa_nonneg u]
    have := dec_sh u (by omega)
    omega
theorem add_tm (a b : List UInt8) (h : a.length + b.length ≤ 1000) (w : World) (A B C : ByteArray) (hA : A = ⟨a.toArray⟩) (hB : B = ⟨b.toArray⟩) (hC : C = ⟨(a ++ b).toArray⟩) : (Op.stringOp .add A B).run Tryz.prog w = .ok (.string C) w := by
  subst hA; subst hB; subst hC
  rw [run_string_add_sum w _ _ (by
    have h0 : (ByteArray.mk a.toArray).size = a.length := by show a.toArray.size = _; simp
    have h1 : (ByteArray.mk b.toArray).size = b.length := by show b.toArray.size = _; simp
    rw [h0, h1]; omega)]
  congr 2
  try (apply ByteArray.ext; rw [ByteArray.data_append]; simp)
theorem add_big (a b : List UInt8) (h : a.length + b.length ≤ 100000000) (w : World) (A B C : ByteArray) (hA : A = ⟨a.toArray⟩) (hB : B = ⟨b.toArray⟩) (hC : C = ⟨(a ++ b).toArray⟩) : (Op.stringOp .add A B).run Tryz.prog w = .ok (.string C) w := by
  subst hA; subst hB; subst hC
  rw [run_string_add_sum w _ _ (by
    have h0 : (ByteArray.mk a.toArray).size = a.length := by show a.toArray.size = _; simp
    have h1 : (ByteArray.mk b.toArray).size = b.length := by show b.toArray.size = _; simp
    rw [h0, h1]; omega)]
  congr 2
  try (apply ByteArray.ext; rw [ByteArray.data_append]; simp)
theorem ntL_small {n : Int} (h : -1000000 ≤ n ∧ n ≤ 1000000) : ntL n = Lib.itoa n := by
  unfold ntL numText
  rw [if_pos (numB_of (.inr h)), if_neg (by omega)]
end Go.Proofs.YtiopinhdfoinoaaGreatDoor
