/-
  The functions on single numbers, of the program and of the model: what each call returns.
  No condition but that the arguments are integers of Go's int.
-/
import Derived.Test.YtmeabhfhjnabdaaDoorRows
import Derived.WalkKit
import Derived.ProofKit
import Derived.Handy
import Derived.Lib.Hide
namespace Go.Proofs.YtmeabhfhjnabdaaDoor
open Go.ChangeShapes Go.WideShapes Go.ChangeAt Go.RowKit

/-- Is it a number: Infinity, or within a million. -/
def numB (n : Int) : Bool := n == 1000000000 || (decide (-1000000 ≤ n) && decide (n ≤ 1000000))
/-- Is it a number that is not Infinity. -/
def finB (n : Int) : Bool := decide (-1000000 ≤ n) && decide (n ≤ 1000000)
/-- The product, which may be greater or less than a number. -/
def plusI (a b : Int) : Int := if a = 1000000000 ∨ b = 1000000000 then 1000000000 else a + b
/-- The less one. -/
def lessI (a b : Int) : Int := if a < b then a else b
/-- The number, or 0 for what is none. -/
def orZ (n : Int) : Int := if numB n = true then n else 0
/-- The sum of two numbers, 0 for what are none. -/
def tSum (a b : Int) : Int := if numB a = true ∧ numB b = true then lessI a b else 0
/-- The product of two numbers, and whether it is one. -/
def tProdB (a b : Int) : Bool := numB a && (numB b && numB (plusI a b))
def tProd (a b : Int) : Int := if numB a = true ∧ numB b = true then orZ (plusI a b) else 0
/-- The quotient of two numbers, and whether it is one. -/
def tQuoB (a b : Int) : Bool := numB a && (finB b && numB (plusI a (-b)))
def tQuo (a b : Int) : Int := if numB a = true ∧ finB b = true then orZ (plusI a (-b)) else 0
theorem numB_cases {n : Int} (h : numB n = true) : n = 1000000000 ∨ (-1000000 ≤ n ∧ n ≤ 1000000) := by
  unfold numB at h; simp at h; omega
theorem numB_bd {n : Int} (h : numB n = true) : -1000000 ≤ n ∧ n ≤ 1000000000 := by
  have := numB_cases h; omega
theorem numB_of {n : Int} (h : n = 1000000000 ∨ (-1000000 ≤ n ∧ n ≤ 1000000)) : numB n = true := by
  unfold numB; simp; omega
theorem numB_no {n : Int} (h : ¬ (n = 1000000000 ∨ (-1000000 ≤ n ∧ n ≤ 1000000))) : numB n = false := by
  unfold numB; simp; omega
theorem numB_not {n : Int} (h : numB n = false) : n ≠ 1000000000 ∧ ¬ (-1000000 ≤ n ∧ n ≤ 1000000) := by
  unfold numB at h; simp at h; omega
theorem finB_iff (n : Int) : finB n = true ↔ (-1000000 ≤ n ∧ n ≤ 1000000) := by unfold finB; simp
theorem finB_num {n : Int} (h : finB n = true) : numB n = true := numB_of (.inr ((finB_iff n).1 h))
theorem plusI_bd (a b : Int) (ha : -1000000000000 ≤ a ∧ a ≤ 1000000000000) (hb : -1000000000000 ≤ b ∧ b ≤ 1000000000000) : -2000000000000 ≤ plusI a b ∧ plusI a b ≤ 2000000000000 := by
  unfold plusI; split <;> omega
theorem ret_bool {a b : Bool} (h : a = b) : Ending.returned (.bool a) = .returned (.bool b) := by rw [h]
theorem ret_i64 {a b : Int} (h : a = b) : Ending.returned (.int .i64 a) = .returned (.int .i64 b) := by rw [h]
theorem ret_ib {a b : Int} {c d : Bool} (h : a = b) (h' : c = d) : Ending.returned (.tuple #[.int .i64 a, .bool c]) = .returned (.tuple #[.int .i64 b, .bool d]) := by rw [h, h']

theorem nuGood_any (n : Int) (w : World) : Calls Tryd.prog 43 #[.int .i64 n] w fun e w' => e = .returned (.bool (numB n)) ∧ w = w' := by
  by_cases h1 : n = 1000000000
  · subst h1
    go_enter Tryd.func43, Tryd.ntmps43
    go_wp2
    go_ret
    exact ⟨rfl, rfl⟩
  · by_cases h2 : -1000000 ≤ n
    · by_cases h3 : n ≤ 1000000
      all_goals
        go_enter Tryd.func43, Tryd.ntmps43
        go_wp2
        go_ret
        exact ⟨ret_bool (by simp [numB, h1, h2, h3]), rfl⟩
    · go_enter Tryd.func43, Tryd.ntmps43
      go_wp2
      go_ret
      exact ⟨ret_bool (by simp [numB, h1]; omega), rfl⟩
theorem isFin_any (n : Int) (w : World) : Calls Tryd.prog 46 #[.int .i64 n] w fun e w' => e = .returned (.bool (finB n)) ∧ w = w' := by
  by_cases h2 : -1000000 ≤ n
  · by_cases h3 : n ≤ 1000000
    all_goals
      go_enter Tryd.func46, Tryd.ntmps46
      go_wp2
      go_ret
      exact ⟨ret_bool (by simp [finB, h2, h3]), rfl⟩
  · go_enter Tryd.func46, Tryd.ntmps46
    go_wp2
    go_ret
    exact ⟨ret_bool (by simp [finB]; omega), rfl⟩
theorem isNumber_any (n : Int) (w : World) : Calls Tryd.prog 13 #[.int .i64 n] w fun e w' => e = .returned (.bool (numB n)) ∧ w = w' := by
  by_cases h1 : n = 1000000000
  · subst h1
    go_enter Tryd.func13, Tryd.ntmps13
    go_wp2
    go_ret
    exact ⟨rfl, rfl⟩
  · go_enter Tryd.func13, Tryd.ntmps13
    go_wp2_with (go_at_call 46; refine (isFin_any _ _).mono ?_; rintro e w' ⟨rfl, rfl⟩)
    go_ret
    exact ⟨ret_bool (by simp [numB, finB]), rfl⟩
theorem l1Least_any (a b : Int) (w : World) : Calls Tryd.prog 45 #[.int .i64 a, .int .i64 b] w fun e w' => e = .returned (.int .i64 (lessI a b)) ∧ w = w' := by
  by_cases h : a < b
  all_goals
    go_enter Tryd.func45, Tryd.ntmps45
    go_wp2
    go_ret
    exact ⟨ret_i64 (by unfold lessI; split <;> omega), rfl⟩
theorem nuPlus_any (a b : Int) (w : World) (ha : -1000000000000 ≤ a ∧ a ≤ 1000000000000) (hb : -1000000000000 ≤ b ∧ b ≤ 1000000000000) : Calls Tryd.prog 70 #[.int .i64 a, .int .i64 b] w fun e w' => e = .returned (.int .i64 (plusI a b)) ∧ w = w' := by
  obtain ⟨ha1, ha2⟩ := ha
  obtain ⟨hb1, hb2⟩ := hb
  cases h : a == 1000000000 <;> cases h' : b == 1000000000
  all_goals
    go_enter Tryd.func70, Tryd.ntmps70
    go_wp2
    go_ret
    simp at h h'
    exact ⟨ret_i64 (by simp [plusI, h, h']), rfl⟩
theorem freeProduct_any (a b : Int) (w : World) (ha : -1000000000000 ≤ a ∧ a ≤ 1000000000000) (hb : -1000000000000 ≤ b ∧ b ≤ 1000000000000) : Calls Tryd.prog 42 #[.int .i64 a, .int .i64 b] w fun e w' => e = .returned (.int .i64 (plusI a b)) ∧ w = w' := by
  obtain ⟨ha1, ha2⟩ := ha
  obtain ⟨hb1, hb2⟩ := hb
  cases h : a == 1000000000 <;> cases h' : b == 1000000000
  all_goals
    go_enter Tryd.func42, Tryd.ntmps42
    go_wp2
    go_ret
    simp at h h'
    exact ⟨ret_i64 (by simp [plusI, h, h']), rfl⟩
theorem nuIf_any (n : Int) (w : World) : Calls Tryd.prog 50 #[.int .i64 n] w fun e w' => e = .returned (.tuple #[.int .i64 (orZ n), .bool (numB n)]) ∧ w = w' := by
  cases h : numB n
  all_goals
    go_enter Tryd.func50, Tryd.ntmps50
    go_wp2_with (go_at_call 43; refine (nuGood_any _ _).mono ?_; rintro e w' ⟨rfl, rfl⟩)
    go_ret2
    exact ⟨ret_ib (by simp [orZ, h]) rfl, rfl⟩
theorem numberOrNone_any (n : Int) (w : World) : Calls Tryd.prog 41 #[.int .i64 n] w fun e w' => e = .returned (.tuple #[.int .i64 (orZ n), .bool (numB n)]) ∧ w = w' := by
  cases h : numB n
  all_goals
    go_enter Tryd.func41, Tryd.ntmps41
    go_wp2_with (go_at_call 13; refine (isNumber_any _ _).mono ?_; rintro e w' ⟨rfl, rfl⟩)
    go_ret2
    exact ⟨ret_ib (by simp [orZ, h]) rfl, rfl⟩
theorem nuMul_any (a b : Int) (w : World) (ha : -1000000000000 ≤ a ∧ a ≤ 1000000000000) (hb : -1000000000000 ≤ b ∧ b ≤ 1000000000000) : Calls Tryd.prog 44 #[.int .i64 a, .int .i64 b] w fun e w' => e = .returned (.tuple #[.int .i64 (orZ (plusI a b)), .bool (numB (plusI a b))]) ∧ w = w' := by
  go_enter Tryd.func44, Tryd.ntmps44
  go_wp2_with (first | (go_at_call 70; refine (nuPlus_any _ _ _ ha hb).mono ?_; rintro e w' ⟨rfl, rfl⟩) | (go_at_call 50; refine (nuIf_any _ _).mono ?_; rintro e w' ⟨rfl, rfl⟩))
  go_ret2
  exact ⟨rfl, rfl⟩
theorem specTropSum_any (a b : Int) (w : World) : Calls Tryd.prog 10 #[.int .i64 a, .int .i64 b] w fun e w' => e = .returned (.tuple #[.int .i64 (tSum a b), .bool (numB a && numB b)]) ∧ w = w' := by
  cases ha : numB a <;> cases hb : numB b
  all_goals
    go_enter Tryd.func10, Tryd.ntmps10
    go_wp2_with (first | (go_at_call 43; refine (nuGood_any _ _).mono ?_; rintro e w' ⟨rfl, rfl⟩) | (go_at_call 45; refine (l1Least_any _ _ _).mono ?_; rintro e w' ⟨rfl, rfl⟩))
    go_ret2
    exact ⟨ret_ib (by simp [tSum, ha, hb]) rfl, rfl⟩
theorem implTropSum_any (a b : Int) (w : World) : Calls Tryd.prog 9 #[.int .i64 a, .int .i64 b] w fun e w' => e = .returned (.tuple #[.int .i64 (tSum a b), .bool (numB a && numB b)]) ∧ w = w' := by
  cases ha : numB a <;> cases hb : numB b
  all_goals
    go_enter Tryd.func9, Tryd.ntmps9
    go_wp2_with (first | (go_at_call 13; refine (isNumber_any _ _).mono ?_; rintro e w' ⟨rfl, rfl⟩))
    all_goals
      go_ret2
      exact ⟨ret_ib (by simp [tSum, ha, hb, lessI]; try omega) rfl, rfl⟩
theorem specTropProduct_any (a b : Int) (w : World) : Calls Tryd.prog 8 #[.int .i64 a, .int .i64 b] w fun e w' => e = .returned (.tuple #[.int .i64 (tProd a b), .bool (tProdB a b)]) ∧ w = w' := by
  cases ha : numB a <;> cases hb : numB b
  case true.true =>
    have ha' := numB_bd ha
    have hb' := numB_bd hb
    go_enter Tryd.func8, Tryd.ntmps8
    go_wp2_with (first | (go_at_call 43; refine (nuGood_any _ _).mono ?_; rintro e w' ⟨rfl, rfl⟩) | (go_at_call 44; refine (nuMul_any _ _ _ (by omega) (by omega)).mono ?_; rintro e w' ⟨rfl, rfl⟩))
    go_ret2
    exact ⟨ret_ib (by simp [tProd, ha, hb]) (by simp [tProdB, ha, hb]), rfl⟩
  all_goals
    go_enter Tryd.func8, Tryd.ntmps8
    go_wp2_with (first | (go_at_call 43; refine (nuGood_any _ _).mono ?_; rintro e w' ⟨rfl, rfl⟩))
    go_ret2
    exact ⟨ret_ib (by simp [tProd, ha, hb]) (by simp [tProdB, ha, hb]), rfl⟩
theorem implTropProduct_any (a b : Int) (w : World) : Calls Tryd.prog 7 #[.int .i64 a, .int .i64 b] w fun e w' => e = .returned (.tuple #[.int .i64 (tProd a b), .bool (tProdB a b)]) ∧ w = w' := by
  cases ha : numB a <;> cases hb : numB b
  case true.true =>
    have ha' := numB_bd ha
    have hb' := numB_bd hb
    go_enter Tryd.func7, Tryd.ntmps7
    go_wp2_with (first | (go_at_call 13; refine (isNumber_any _ _).mono ?_; rintro e w' ⟨rfl, rfl⟩) | (go_at_call 42; refine (freeProduct_any _ _ _ (by omega) (by omega)).mono ?_; rintro e w' ⟨rfl, rfl⟩) | (go_at_call 41; refine (numberOrNone_any _ _).mono ?_; rintro e w' ⟨rfl, rfl⟩))
    go_ret2
    exact ⟨ret_ib (by simp [tProd, ha, hb]) (by simp [tProdB, ha, hb]), rfl⟩
  all_goals
    go_enter Tryd.func7, Tryd.ntmps7
    go_wp2_with (first | (go_at_call 13; refine (isNumber_any _ _).mono ?_; rintro e w' ⟨rfl, rfl⟩))
    go_ret2
    exact ⟨ret_ib (by simp [tProd, ha, hb]) (by simp [tProdB, ha, hb]), rfl⟩
theorem specTropQuotient_any (a b : Int) (w : World) : Calls Tryd.prog 12 #[.int .i64 a, .int .i64 b] w fun e w' => e = .returned (.tuple #[.int .i64 (tQuo a b), .bool (tQuoB a b)]) ∧ w = w' := by
  cases ha : numB a
  · go_enter Tryd.func12, Tryd.ntmps12
    go_wp2_with (first | (go_at_call 43; refine (nuGood_any _ _).mono ?_; rintro e w' ⟨rfl, rfl⟩))
    go_ret2
    exact ⟨ret_ib (by simp [tQuo, ha]) (by simp [tQuoB, ha]), rfl⟩
  · cases hf : finB b
    · cases hb : numB b
      · go_enter Tryd.func12, Tryd.ntmps12
        go_wp2_with (first | (go_at_call 43; refine (nuGood_any _ _).mono ?_; rintro e w' ⟨rfl, rfl⟩))
        go_ret2
        exact ⟨ret_ib (by simp [tQuo, hf]) (by simp [tQuoB, hf]), rfl⟩
      · have hi : b = 1000000000 := by
          have h1 := numB_cases hb
          have h2 := finB_iff b
          rw [hf] at h2
          simp at h2
          omega
        subst hi
        clear hf hb
        go_enter Tryd.func12, Tryd.ntmps12
        go_wp2_with (first | (go_at_call 43; refine (nuGood_any _ _).mono ?_; rintro e w' ⟨rfl, rfl⟩))
        go_ret2
        exact ⟨ret_ib (by simp [tQuo, finB]) (by simp [tQuoB, finB]), rfl⟩
    · have hb := finB_num hf
      have ha' := numB_bd ha
      obtain ⟨hb1, hb2⟩ := (finB_iff b).1 hf
      have hn : (b == 1000000000) = false := by simp; omega
      go_enter Tryd.func12, Tryd.ntmps12
      go_wp2_with (first | (go_at_call 43; refine (nuGood_any _ _).mono ?_; rintro e w' ⟨rfl, rfl⟩) | (go_at_call 44; refine (nuMul_any _ _ _ (by omega) (by omega)).mono ?_; rintro e w' ⟨rfl, rfl⟩))
      go_ret2
      exact ⟨ret_ib (by simp [tQuo, ha, hf]) (by simp [tQuoB, ha, hf]), rfl⟩
theorem implTropQuotient_any (a b : Int) (w : World) : Calls Tryd.prog 11 #[.int .i64 a, .int .i64 b] w fun e w' => e = .returned (.tuple #[.int .i64 (tQuo a b), .bool (tQuoB a b)]) ∧ w = w' := by
  cases ha : numB a <;> cases hb : finB b
  case true.true =>
    have ha' := numB_bd ha
    have hb' := (finB_iff b).1 hb
    obtain ⟨hb1, hb2⟩ := hb'
    go_enter Tryd.func11, Tryd.ntmps11
    go_wp2_with (first | (go_at_call 13; refine (isNumber_any _ _).mono ?_; rintro e w' ⟨rfl, rfl⟩) | (go_at_call 46; refine (isFin_any _ _).mono ?_; rintro e w' ⟨rfl, rfl⟩) | (go_at_call 42; refine (freeProduct_any _ _ _ (by omega) (by omega)).mono ?_; rintro e w' ⟨rfl, rfl⟩) | (go_at_call 41; refine (numberOrNone_any _ _).mono ?_; rintro e w' ⟨rfl, rfl⟩))
    go_ret2
    exact ⟨ret_ib (by simp [tQuo, ha, hb]) (by simp [tQuoB, ha, hb]), rfl⟩
  all_goals
    go_enter Tryd.func11, Tryd.ntmps11
    go_wp2_with (first | (go_at_call 13; refine (isNumber_any _ _).mono ?_; rintro e w' ⟨rfl, rfl⟩) | (go_at_call 46; refine (isFin_any _ _).mono ?_; rintro e w' ⟨rfl, rfl⟩))
    go_ret2
    exact ⟨ret_ib (by simp [tQuo, ha, hb]) (by simp [tQuoB, ha, hb]), rfl⟩
end Go.Proofs.YtmeabhfhjnabdaaDoor
