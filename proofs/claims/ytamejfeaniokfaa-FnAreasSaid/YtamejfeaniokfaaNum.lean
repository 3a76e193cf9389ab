/-
  The functions on single numbers, of the program and of the model: what each call returns.
  No condition but that the arguments are integers of Go's int.
-/
import Derived.Test.YtamejfeaniokfaaRows
import Derived.WalkKit
import Derived.ProofKit
import Derived.Handy
import Derived.Lib.Hide
namespace Go.Proofs.Ytamejfeaniokfaa
set_option linter.unusedSimpArgs false
set_option linter.unusedVariables false
open Go.ChangeShapes Go.WideShapes Go.ChangeAt Go.RowKit

/-- Is it a number: Infinity, or within a million. -/
def numB (n : Int) : Bool := n == 1000000000 || (decide (-1000000 ≤ n) && decide (n ≤ 1000000))
/-- Is it a number that is not Infinity. -/
def finB (n : Int) : Bool := decide (-1000000 ≤ n) && decide (n ≤ 1000000)
/-- The product, which may be greater or less than a number. -/
def plusI (a b : Int) : Int := if a = 1000000000 ∨ b = 1000000000 then 1000000000 else a + b
/-- The less one. -/
def lessI (a b : Int) : Int := if a < b then a else b
/-- The number, or 0 for what is none. -/
def orZ (n : Int) : Int := if numB n = true then n else 0
/-- The sum of two numbers, 0 for what are none. -/
def tSum (a b : Int) : Int := if numB a = true ∧ numB b = true then lessI a b else 0
/-- The product of two numbers, and whether it is one. -/
def tProdB (a b : Int) : Bool := numB a && (numB b && numB (plusI a b))
def tProd (a b : Int) : Int := if numB a = true ∧ numB b = true then orZ (plusI a b) else 0
/-- The quotient of two numbers, and whether it is one. -/
def tQuoB (a b : Int) : Bool := numB a && (finB b && numB (plusI a (-b)))
def tQuo (a b : Int) : Int := if numB a = true ∧ finB b = true then orZ (plusI a (-b)) else 0
theorem numB_cases {n : Int} (h : numB n = true) : n = 1000000000 ∨ (-1000000 ≤ n ∧ n ≤ 1000000) := by
  unfold numB at h; simp at h; omega
theorem numB_bd {n : Int} (h : numB n = true) : -1000000 ≤ n ∧ n ≤ 1000000000 := by
  have := numB_cases h; omega
theorem numB_of {n : Int} (h : n = 1000000000 ∨ (-1000000 ≤ n ∧ n ≤ 1000000)) : numB n = true := by
  unfold numB; simp; omega
theorem numB_no {n : Int} (h : ¬ (n = 1000000000 ∨ (-1000000 ≤ n ∧ n ≤ 1000000))) : numB n = false := by
  unfold numB; simp; omega
theorem numB_not {n : Int} (h : numB n = false) : n ≠ 1000000000 ∧ ¬ (-1000000 ≤ n ∧ n ≤ 1000000) := by
  unfold numB at h; simp at h; omega
theorem finB_iff (n : Int) : finB n = true ↔ (-1000000 ≤ n ∧ n ≤ 1000000) := by unfold finB; simp
theorem finB_num {n : Int} (h : finB n = true) : numB n = true := numB_of (.inr ((finB_iff n).1 h))
theorem plusI_bd (a b : Int) (ha : -1000000000000 ≤ a ∧ a ≤ 1000000000000) (hb : -1000000000000 ≤ b ∧ b ≤ 1000000000000) : -2000000000000 ≤ plusI a b ∧ plusI a b ≤ 2000000000000 := by
  unfold plusI; split <;> omega
theorem ret_bool {a b : Bool} (h : a = b) : Ending.returned (.bool a) = .returned (.bool b) := by rw [h]
theorem ret_i64 {a b : Int} (h : a = b) : Ending.returned (.int .i64 a) = .returned (.int .i64 b) := by rw [h]
theorem ret_ib {a b : Int} {c d : Bool} (h : a = b) (h' : c = d) : Ending.returned (.tuple #[.int .i64 a, .bool c]) = .returned (.tuple #[.int .i64 b, .bool d]) := by rw [h, h']

/-- Is n within two bounds. -/
def inB (n lo hi : Int) : Bool := decide (lo ≤ n) && decide (n ≤ hi)
theorem inB_iff (n lo hi : Int) : inB n lo hi = true ↔ (lo ≤ n ∧ n ≤ hi) := by unfold inB; simp
theorem l1In_any (n lo hi : Int) (w : World) : Calls Try.prog 62 #[.int .i64 n, .int .i64 lo, .int .i64 hi] w fun e w' => e = .returned (.bool (inB n lo hi)) ∧ w = w' := by
  by_cases h2 : lo ≤ n
  · by_cases h3 : n ≤ hi
    all_goals
      go_enter Try.func62, Try.ntmps62
      go_wp2
      go_ret
      exact ⟨ret_bool (by simp [inB, h2, h3]), rfl⟩
  · go_enter Try.func62, Try.ntmps62
    go_wp2
    go_ret
    exact ⟨ret_bool (by simp [inB]; omega), rfl⟩
theorem l1Least_any (a b : Int) (w : World) : Calls Try.prog 41 #[.int .i64 a, .int .i64 b] w fun e w' => e = .returned (.int .i64 (lessI a b)) ∧ w = w' := by
  by_cases h : a < b
  all_goals
    go_enter Try.func41, Try.ntmps41
    go_wp2
    go_ret
    exact ⟨ret_i64 (by unfold lessI; split <;> omega), rfl⟩
end Go.Proofs.Ytamejfeaniokfaa
