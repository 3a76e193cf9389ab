/-
  The functions of chapter 1 on lists, of the program and of the model: what each call returns.
  Condition: the slice reads as the list that is named; the table of the neutral numbers is as the program's text lays it.
-/
import Derived.Test.YtoeodkkbaieifaaDoorList
import Derived.LaidMore
import Derived.Stop.Joined
import Derived.Lib.LaidTab
import Derived.MakeChecks
namespace Go.Proofs.YtoeodkkbaieifaaDoor
open Go.ChangeShapes Go.WideShapes Go.ChangeAt Go.RowKit

/-- What the rows' condition gives: the table's two cells. -/
theorem neut_of_laid {W : World} (h : laidMetH Tryd.prog [("loop.example/g01056/impl.neutralNumbers", Rows.laid_loop_example_g01056_impl_neutralNumbers)] W) : Neut W := by
  rw [MakeChecks.laidMetH_plain _ _ _ (by kernel_rfl)] at h
  have hT := Lib.tabIs_of_head (zs := [1000000000, 0]) (k := .i64) (rest := []) (show Tryd.prog.globalNamed "loop.example/g01056/impl.neutralNumbers" = some 0 by kernel_rfl) (show (Tryd.prog.globals[0]?).map (·.type) = some 45 by kernel_rfl) Tryd.underlying45 Tryd.underlying3 (by kernel_rfl) (by kernel_rfl) h
  exact ⟨hT.cell (by kernel_rfl) 0 (by decide), hT.cell (by kernel_rfl) 1 (by decide)⟩
/-- The sum of a list, 0 for what is none. -/
def sumV (zs : List Int) : Int := if listB zs = true then leastL zs else 0
theorem specTropSumOf_any (w : World) (B : Nat) (v : Value) (zs : List Int) (h : IS w B v zs) : Calls Tryd.prog 13 #[v] w fun e w' => e = .returned (.tuple #[.int .i64 (sumV zs), .bool (listB zs)]) ∧ w = w' := by
  cases hl : listB zs
  all_goals
    go_enter Tryd.func13, Tryd.ntmps13
    go_wp2_with (first | (go_at_call 37; refine (nuList_any _ B _ zs h).mono ?_; rintro e w' ⟨rfl, rfl⟩) | (go_at_call 38; refine (nuSum_any _ B _ zs h).mono ?_; rintro e w' ⟨rfl, rfl⟩))
    go_ret2
    exact ⟨ret_ib (by simp [sumV, hl]) rfl, rfl⟩
theorem implTropSumOf_any (w : World) (hN : Neut w) (B : Nat) (v : Value) (zs : List Int) (h : IS w B v zs) : Calls Tryd.prog 15 #[v] w fun e w' => e = .returned (.tuple #[.int .i64 (sumV zs), .bool (listB zs)]) ∧ w = w' := by
  cases hl : listB zs
  all_goals
    go_enter Tryd.func15, Tryd.ntmps15
    go_wp2_with (first | (go_at_call 39; refine (isNumberList_any _ B _ zs h).mono ?_; rintro e w' ⟨rfl, rfl⟩) | (go_at_call 40; refine (leastOf_any _ hN B _ zs h).mono ?_; rintro e w' ⟨rfl, rfl⟩))
    go_ret2
    exact ⟨ret_ib (by simp [sumV, hl]) rfl, rfl⟩
/-- Is n within two bounds. -/
def inB (n lo hi : Int) : Bool := decide (lo ≤ n) && decide (n ≤ hi)
theorem l1In_any (n lo hi : Int) (w : World) : Calls Tryd.prog 32 #[.int .i64 n, .int .i64 lo, .int .i64 hi] w fun e w' => e = .returned (.bool (inB n lo hi)) ∧ w = w' := by
  by_cases h2 : lo ≤ n
  · by_cases h3 : n ≤ hi
    all_goals
      go_enter Tryd.func32, Tryd.ntmps32
      go_wp2
      go_ret
      exact ⟨ret_bool (by simp [inB, h2, h3]), rfl⟩
  · go_enter Tryd.func32, Tryd.ntmps32
    go_wp2
    go_ret
    exact ⟨ret_bool (by simp [inB]; omega), rfl⟩
/-- The power before it is asked whether it is a number. -/
def powR (a k : Int) : Int := if k = 0 then 0 else if a = 1000000000 then 1000000000 else k * a
def tPowB (a k : Int) : Bool := numB a && (inB k 0 20 && numB (powR a k))
def tPow (a k : Int) : Int := if tPowB a k = true then powR a k else 0
theorem inB_iff (n lo hi : Int) : inB n lo hi = true ↔ (lo ≤ n ∧ n ≤ hi) := by unfold inB; simp
theorem orZ_pow (a k : Int) (ha : numB a = true) (hk : inB k 0 20 = true) : orZ (powR a k) = tPow a k := by
  unfold orZ tPow tPowB; rw [ha, hk]; rfl
theorem mul_bd {a k : Int} (ha : -1000000 ≤ a ∧ a ≤ 1000000) (hk : 0 ≤ k ∧ k ≤ 20) : -20000000 ≤ k * a ∧ k * a ≤ 20000000 := by
  obtain ⟨n, rfl⟩ := Int.eq_ofNat_of_zero_le hk.1
  have h20 : n ≤ 20 := by omega
  clear hk
  have : n = 0 ∨ n = 1 ∨ n = 2 ∨ n = 3 ∨ n = 4 ∨ n = 5 ∨ n = 6 ∨ n = 7 ∨ n = 8 ∨ n = 9 ∨ n = 10 ∨ n = 11 ∨ n = 12 ∨ n = 13 ∨ n = 14 ∨ n = 15 ∨ n = 16 ∨ n = 17 ∨ n = 18 ∨ n = 19 ∨ n = 20 := by omega
  rcases this with rfl | rfl | rfl | rfl | rfl | rfl | rfl | rfl | rfl | rfl | rfl | rfl | rfl | rfl | rfl | rfl | rfl | rfl | rfl | rfl | rfl <;> simp <;> omega
theorem specTropPower_any (a k : Int) (w : World) : Calls Tryd.prog 11 #[.int .i64 a, .int .i64 k] w fun e w' => e = .returned (.tuple #[.int .i64 (tPow a k), .bool (tPowB a k)]) ∧ w = w' := by
  cases ha : numB a
  · go_enter Tryd.func11, Tryd.ntmps11
    go_wp2_with (first | (go_at_call 31; refine (nuGood_any _ _).mono ?_; rintro e w' ⟨rfl, rfl⟩))
    go_ret2
    exact ⟨ret_ib (by simp [tPow, tPowB, ha]) (by simp [tPowB, ha]), rfl⟩
  · cases hk : inB k 0 20
    · go_enter Tryd.func11, Tryd.ntmps11
      go_wp2_with (first | (go_at_call 31; refine (nuGood_any _ _).mono ?_; rintro e w' ⟨rfl, rfl⟩) | (go_at_call 32; refine (l1In_any _ _ _ _).mono ?_; rintro e w' ⟨rfl, rfl⟩))
      go_ret2
      exact ⟨ret_ib (by simp [tPow, tPowB, hk]) (by simp [tPowB, hk]), rfl⟩
    · by_cases h0 : k = 0
      · subst h0
        go_enter Tryd.func11, Tryd.ntmps11
        go_wp2_with (first | (go_at_call 31; refine (nuGood_any _ _).mono ?_; rintro e w' ⟨rfl, rfl⟩) | (go_at_call 32; refine (l1In_any _ _ _ _).mono ?_; rintro e w' ⟨rfl, rfl⟩))
        go_ret2
        exact ⟨ret_ib (by simp [tPow, tPowB, powR]) (by simp [tPowB, ha, hk, powR]; rfl), rfl⟩
      · by_cases hi : a = 1000000000
        · subst hi
          have h0' : (k == 0) = false := by simpa using h0
          go_enter Tryd.func11, Tryd.ntmps11
          go_wp2_with (first | (go_at_call 31; refine (nuGood_any _ _).mono ?_; rintro e w' ⟨rfl, rfl⟩) | (go_at_call 32; refine (l1In_any _ _ _ _).mono ?_; rintro e w' ⟨rfl, rfl⟩))
          go_ret2
          exact ⟨ret_ib (by simp [tPow, tPowB, powR, h0, hk, ha]) (by simp [tPowB, ha, hk, powR, h0]), rfl⟩
        · have h0' : (k == 0) = false := by simpa using h0
          have hi' : (a == 1000000000) = false := by simpa using hi
          have hp : powR a k = k * a := by simp [powR, h0, hi]
          have hb := mul_bd (a := a) (k := k) (by have := numB_cases ha; omega) ((inB_iff _ _ _).1 hk)
          obtain ⟨hb1, hb2⟩ := hb
          have hpw := orZ_pow a k ha hk
          rw [hp] at hpw
          have hpb : tPowB a k = numB (k * a) := by simp [tPowB, ha, hk, hp]
          have HW := Lib.hid hpw
          have HB := Lib.hid hpb
          clear hp hpw hpb h0 hi
          go_enter Tryd.func11, Tryd.ntmps11
          go_wp2_with (first | (go_at_call 31; refine (nuGood_any _ _).mono ?_; rintro e w' ⟨rfl, rfl⟩) | (go_at_call 32; refine (l1In_any _ _ _ _).mono ?_; rintro e w' ⟨rfl, rfl⟩) | (go_at_call 33; refine (nuIf_any _ _).mono ?_; rintro e w' ⟨rfl, rfl⟩))
          go_ret2
          exact ⟨ret_ib HW.out HB.out.symm, rfl⟩
/-- j times a, one after the other. -/
def powN (a : Int) : Nat → Int
  | 0 => 0
  | j + 1 => plusI (powN a j) a
theorem powN_inf (j : Nat) : powN 1000000000 (j + 1) = 1000000000 := by simp [powN, plusI]
theorem powN_fin (a : Int) (ha : -1000000 ≤ a ∧ a ≤ 1000000) : ∀ j : Nat, j ≤ 20 → powN a j = j * a
  | 0, _ => by simp [powN]
  | j + 1, h => by
    have ih := powN_fin a ha j (by omega)
    have hb := mul_bd ha (k := j) (by omega)
    simp only [powN, ih, plusI]
    rw [if_neg (by omega)]
    push_cast
    rw [Int.add_mul, Int.one_mul]
theorem powN_powR (a : Int) (ha : numB a = true) (j : Nat) (hj : j ≤ 20) : powN a j = powR a j := by
  rcases numB_cases ha with rfl | h
  · cases j with
    | zero => simp [powN, powR]
    | succ j => rw [powN_inf]; simp [powR]; omega
  · rw [powN_fin a h j hj]
    unfold powR
    split
    · next h0 => rw [h0]; simp
    · rw [if_neg (by omega)]
theorem powN_bd (a : Int) (ha : numB a = true) (j : Nat) (hj : j ≤ 20) : -1000000000000 ≤ powN a j ∧ powN a j ≤ 1000000000000 := by
  rcases numB_cases ha with rfl | h
  · cases j with
    | zero => simp [powN]
    | succ j => rw [powN_inf]; omega
  · rw [powN_fin a h j hj]; have := mul_bd h (k := j) (by omega); omega
set_option maxHeartbeats 400000 in
theorem implTropPower_any (a k : Int) (w : World) (hN : Neut w) : Calls Tryd.prog 12 #[.int .i64 a, .int .i64 k] w fun e w' => e = .returned (.tuple #[.int .i64 (tPow a k), .bool (tPowB a k)]) ∧ w = w' := by
  cases ha : numB a
  · go_enter Tryd.func12, Tryd.ntmps12
    go_wp2_with (first | (go_at_call 34; refine (isNumber_any _ _).mono ?_; rintro e w' ⟨rfl, rfl⟩))
    go_ret2
    exact ⟨ret_ib (by simp [tPow, tPowB, ha]) (by simp [tPowB, ha]), rfl⟩
  · by_cases h0 : k < 0
    · have hk : inB k 0 20 = false := by simp [inB]; omega
      go_enter Tryd.func12, Tryd.ntmps12
      go_wp2_with (first | (go_at_call 34; refine (isNumber_any _ _).mono ?_; rintro e w' ⟨rfl, rfl⟩))
      go_ret2
      exact ⟨ret_ib (by simp [tPow, tPowB, hk]) (by simp [tPowB, hk]), rfl⟩
    · by_cases h20 : 20 < k
      · have hk : inB k 0 20 = false := by simp [inB]; omega
        go_enter Tryd.func12, Tryd.ntmps12
        go_wp2_with (first | (go_at_call 34; refine (isNumber_any _ _).mono ?_; rintro e w' ⟨rfl, rfl⟩))
        go_ret2
        exact ⟨ret_ib (by simp [tPow, tPowB, hk]) (by simp [tPowB, hk]), rfl⟩
      · obtain ⟨n, rfl⟩ := Int.eq_ofNat_of_zero_le (show 0 ≤ k by omega)
        have hk : inB (n : Int) 0 20 = true := (inB_iff _ _ _).2 (by omega)
        have hn : n ≤ 20 := by omega
        have HP := Lib.hid (powN_powR a ha n hn)
        have HW := Lib.hid (orZ_pow a n ha hk)
        have HB := Lib.hid (show tPowB a n = numB (powR a n) by simp [tPowB, ha, hk])
        have hab := numB_bd ha
        have hN1 := hN.2
        clear hk h0 h20
        go_enter Tryd.func12, Tryd.ntmps12
        go_wp2_with (first | (go_at_call 34; refine (isNumber_any _ _).mono ?_; rintro e w' ⟨rfl, rfl⟩))
        go_loop [6, 21] (fun x i => ∃ j : Nat, j ≤ n ∧ i = .int .i64 j ∧ x = .int .i64 (powN a j)) (fun _ i => n - (intOf i).toNat)
        case atStart => exact ⟨0, by omega, rfl, rfl⟩
        case round =>
          obtain ⟨j, hj, rfl, rfl⟩ := hrel
          by_cases hlt : j < n
          · have hb := powN_bd a ha j (by omega)
            go_wp2_with (first | (go_at_call 35; refine (freeProduct_any _ _ _ hb (by omega)).mono ?_; rintro e w' ⟨rfl, rfl⟩))
            go_round
            case rel => exact ⟨j + 1, by omega, by go_num, rfl⟩
            case measure => simp [intOf]; omega
          · obtain rfl : j = n := by omega
            go_wp2_with (first | (go_at_call 36; refine (numberOrNone_any _ _).mono ?_; rintro e w' ⟨rfl, rfl⟩))
            go_ret2
            exact ⟨ret_ib (by rw [HP.out, HW.out]) (by rw [HP.out, HB.out]), rfl⟩
end Go.Proofs.YtoeodkkbaieifaaDoor
