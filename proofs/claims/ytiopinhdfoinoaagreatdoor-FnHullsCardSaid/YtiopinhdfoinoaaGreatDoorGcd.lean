/-
  Greatest common divisors, of the program and of the model: what each call returns.
  Condition: the integers lie within bounds where a contract names them.
-/
import Derived.Test.YtiopinhdfoinoaaGreatDoorList
import Derived.Below
import Derived.OwnWalk
import Derived.Laws.OwnMore
import Derived.LoopTactic
import Derived.Deep.QuietTactic
import Derived.BigQuiet
import Derived.RegionTactic
import Derived.Deep.RegionWith
import Derived.Handy
import Derived.Laws.ResultCell
import Derived.Lib.Hide
namespace Go.Proofs.YtiopinhdfoinoaaGreatDoor
set_option linter.unusedSimpArgs false
set_option linter.unusedVariables false
open Go.ChangeShapes Go.WideShapes Go.ChangeAt Go.RowKit

/-! ### Plain facts -/
/-- The greatest common divisor. -/
def gI (a b : Int) : Int := (Int.gcd a b : Int)
theorem gcd_step (a b : Int) : Int.gcd b (a.tmod b) = Int.gcd a b := by
  unfold Int.gcd
  rw [Int.natAbs_tmod, Nat.gcd_comm a.natAbs, Nat.gcd_rec b.natAbs a.natAbs, Nat.gcd_comm]
theorem tmod_lt (a b : Int) (h : b ≠ 0) : (a.tmod b).natAbs < b.natAbs := by
  rw [Int.natAbs_tmod]; exact Nat.mod_lt _ (by omega)
theorem gcd_end (a b x : Int) (h : Int.gcd x 0 = Int.gcd a b) : gI a b = (x.natAbs : Int) := by
  unfold gI; rw [← h]; simp [Int.gcd]
/-- Within what an int holds, with room. -/
def wide (a : Int) : Prop := -4000000000000000000 ≤ a ∧ a ≤ 4000000000000000000
theorem wide_tmod {a b : Int} (ha : wide a) (hb : b ≠ 0) (hw : wide b) : wide (a.tmod b) := by
  have := tmod_lt a b hb
  unfold wide at *
  omega
theorem gI_pos {n d : Int} (h : d ≠ 0) : 1 ≤ gI n d := by
  unfold gI
  have : 0 < Int.gcd n d := Int.gcd_pos_iff.2 (.inr h)
  omega
theorem gI_le {n d : Int} (h : d ≠ 0) : gI n d ≤ d.natAbs := by
  unfold gI
  have : Int.gcd n d ≤ d.natAbs := Nat.le_of_dvd (by omega) (Nat.gcd_dvd_right _ _)
  omega
end Go.Proofs.YtiopinhdfoinoaaGreatDoor
