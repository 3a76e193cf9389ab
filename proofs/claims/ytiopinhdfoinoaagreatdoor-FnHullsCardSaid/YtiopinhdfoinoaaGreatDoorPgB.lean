/-
  Points of the boundary and inside, of the program and of the model: what the calls return.
  Conditions: the slice reads as the list that is named; a polygon where a contract names one.
-/
import Derived.Test.YtiopinhdfoinoaaGreatDoorPgE
namespace Go.Proofs.YtiopinhdfoinoaaGreatDoor
set_option linter.unusedSimpArgs false
set_option linter.unusedVariables false
open Go.ChangeShapes Go.WideShapes Go.ChangeAt Go.RowKit
open Go.Sort (grow)

theorem half_bd {x : Int} (h : 0 ≤ x ∧ x ≤ 400000000) : 0 ≤ x.tdiv 2 ∧ x.tdiv 2 ≤ x := by
  obtain ⟨n, rfl⟩ : ∃ n : Nat, x = n := ⟨x.toNat, by omega⟩
  rw [show (2 : Int) = ((2 : Nat) : Int) from rfl, ← Int.ofNat_tdiv]
  omega
theorem sm_wide {m : Nat} {p : Pt} (h : Sm m p) (hm : m ≤ 1000000) : wide p.1 ∧ wide p.2 := by unfold Sm at h; unfold wide; omega
theorem bnL_bd {l : List Pt} (h : ∀ q ∈ l, Sm 1000 q) (hz : l.length ≤ 40) : 0 ≤ bnL l ∧ bnL l ≤ 200000 := by
  have h1 := bnT_bd h
  have h2 := half_bd (x := bnT l) (by omega)
  unfold bnL
  split <;> omega
theorem arL_bd {l : List Pt} (h : ∀ q ∈ l, Sm 1000 q) (hz : l.length ≤ 100000) : -200000000000 ≤ arL l ∧ arL l ≤ 200000000000 := by
  have h1 := arS_bd h l.length (Nat.le_refl _)
  unfold arL
  omega
theorem tdiv2_bd {x : Int} (h : -4000000000000 ≤ x ∧ x ≤ 4000000000000) : -4000000000000 ≤ x.tdiv 2 ∧ x.tdiv 2 ≤ 4000000000000 := by
  have h1 := Int.natAbs_tdiv x 2
  have h2 := Nat.div_le_self x.natAbs (2 : Int).natAbs
  have h3 : (x.tdiv 2).natAbs ≤ x.natAbs := by rw [h1]; exact h2
  omega
end Go.Proofs.YtiopinhdfoinoaaGreatDoor
