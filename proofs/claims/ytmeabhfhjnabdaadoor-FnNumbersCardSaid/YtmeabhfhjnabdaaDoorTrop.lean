/-
  The functions of chapter 1 on lists, of the program and of the model: what each call returns.
  Condition: the slice reads as the list that is named; the table of the neutral numbers is as the program's text lays it.
-/
import Derived.Test.YtmeabhfhjnabdaaDoorShift
import Derived.LaidMore
import Derived.Stop.Joined
import Derived.Lib.LaidTab
import Derived.MakeChecks
namespace Go.Proofs.YtmeabhfhjnabdaaDoor
open Go.ChangeShapes Go.WideShapes Go.ChangeAt Go.RowKit

/-- What the rows' condition gives: the table's two cells. -/
theorem neut_of_laid {W : World} (h : laidMetH Tryd.prog [("loop.example/g01056/impl.neutralNumbers", Rows.laid_loop_example_g01056_impl_neutralNumbers)] W) : Neut W := by
  rw [MakeChecks.laidMetH_plain _ _ _ (by kernel_rfl)] at h
  have hT := Lib.tabIs_of_head (zs := [1000000000, 0]) (k := .i64) (rest := []) (show Tryd.prog.globalNamed "loop.example/g01056/impl.neutralNumbers" = some 0 by kernel_rfl) (show (Tryd.prog.globals[0]?).map (·.type) = some 58 by kernel_rfl) Tryd.underlying58 Tryd.underlying3 (by kernel_rfl) (by kernel_rfl) h
  exact ⟨hT.cell (by kernel_rfl) 0 (by decide), hT.cell (by kernel_rfl) 1 (by decide)⟩
/-- The sum of a list, 0 for what is none. -/
def sumV (zs : List Int) : Int := if listB zs = true then leastL zs else 0
theorem specTropSumOf_any (w : World) (B : Nat) (v : Value) (zs : List Int) (h : IS w B v zs) : Calls Tryd.prog 26 #[v] w fun e w' => e = .returned (.tuple #[.int .i64 (sumV zs), .bool (listB zs)]) ∧ w = w' := by
  cases hl : listB zs
  all_goals
    go_enter Tryd.func26, Tryd.ntmps26
    go_wp2_with (first | (go_at_call 62; refine (nuList_any _ B _ zs h).mono ?_; rintro e w' ⟨rfl, rfl⟩) | (go_at_call 64; refine (nuSum_any _ B _ zs h).mono ?_; rintro e w' ⟨rfl, rfl⟩))
    go_ret2
    exact ⟨ret_ib (by simp [sumV, hl]) rfl, rfl⟩
theorem implTropSumOf_any (w : World) (hN : Neut w) (B : Nat) (v : Value) (zs : List Int) (h : IS w B v zs) : Calls Tryd.prog 25 #[v] w fun e w' => e = .returned (.tuple #[.int .i64 (sumV zs), .bool (listB zs)]) ∧ w = w' := by
  cases hl : listB zs
  all_goals
    go_enter Tryd.func25, Tryd.ntmps25
    go_wp2_with (first | (go_at_call 60; refine (isNumberList_any _ B _ zs h).mono ?_; rintro e w' ⟨rfl, rfl⟩) | (go_at_call 61; refine (leastOf_any _ hN B _ zs h).mono ?_; rintro e w' ⟨rfl, rfl⟩))
    go_ret2
    exact ⟨ret_ib (by simp [sumV, hl]) rfl, rfl⟩
/-- Is n within two bounds. -/
def inB (n lo hi : Int) : Bool := decide (lo ≤ n) && decide (n ≤ hi)
theorem l1In_any (n lo hi : Int) (w : World) : Calls Tryd.prog 49 #[.int .i64 n, .int .i64 lo, .int .i64 hi] w fun e w' => e = .returned (.bool (inB n lo hi)) ∧ w = w' := by
  by_cases h2 : lo ≤ n
  · by_cases h3 : n ≤ hi
    all_goals
      go_enter Tryd.func49, Tryd.ntmps49
      go_wp2
      go_ret
      exact ⟨ret_bool (by simp [inB, h2, h3]), rfl⟩
  · go_enter Tryd.func49, Tryd.ntmps49
    go_wp2
    go_ret
    exact ⟨ret_bool (by simp [inB]; omega), rfl⟩
/-- The power before it is asked whether it is a number. -/
def powR (a k : Int) : Int := if k = 0 then 0 else if a = 1000000000 then 1000000000 else k * a
def tPowB (a k : Int) : Bool := numB a && (inB k 0 20 && numB (powR a k))
def tPow (a k : Int) : Int := if tPowB a k = true then powR a k else 0
theorem inB_iff (n lo hi : Int) : inB n lo hi = true ↔ (lo ≤ n ∧ n ≤ hi) := by unfold inB; simp
theorem orZ_pow (a k : Int) (ha : numB a = true) (hk : inB k 0 20 = true) : orZ (powR a k) = tPow a k := by
  unfold orZ tPow tPowB; rw [ha, hk]; rfl
theorem mul_bd {a k : Int} (ha : -1000000 ≤ a ∧ a ≤ 1000000) (hk : 0 ≤ k ∧ k ≤ 20) : -20000000 ≤ k * a ∧ k * a ≤ 20000000 := by
  obtain ⟨n, rfl⟩ := Int.eq_ofNat_of_zero_le hk.1
  have h20 : n ≤ 20 := by omega
  clear hk
  have : n = 0 ∨ n = 1 ∨ n = 2 ∨ n = 3 ∨ n = 4 ∨ n = 5 ∨ n = 6 ∨ n = 7 ∨ n = 8 ∨ n = 9 ∨ n = 10 ∨ n = 11 ∨ n = 12 ∨ n = 13 ∨ n = 14 ∨ n = 15 ∨ n = 16 ∨ n = 17 ∨ n = 18 ∨ n = 19 ∨ n = 20 := by omega
  rcases this with rfl | rfl | rfl | rfl | rfl | rfl | rfl | rfl | rfl | rfl | rfl | rfl | rfl | rfl | rfl | rfl | rfl | rfl | rfl | rfl | rfl <;> simp <;> omega
theorem specTropPower_any (a k : Int) (w : World) : Calls Tryd.prog 16 #[.int .i64 a, .int .i64 k] w fun e w' => e = .returned (.tuple #[.int .i64 (tPow a k), .bool (tPowB a k)]) ∧ w = w' := by
  cases ha : numB a
  · go_enter Tryd.func16, Tryd.ntmps16
    go_wp2_with (first | (go_at_call 43; refine (nuGood_any _ _).mono ?_; rintro e w' ⟨rfl, rfl⟩))
    go_ret2
    exact ⟨ret_ib (by simp [tPow, tPowB, ha]) (by simp [tPowB, ha]), rfl⟩
  · cases hk : inB k 0 20
    · go_enter Tryd.func16, Tryd.ntmps16
      go_wp2_with (first | (go_at_call 43; refine (nuGood_any _ _).mono ?_; rintro e w' ⟨rfl, rfl⟩) | (go_at_call 49; refine (l1In_any _ _ _ _).mono ?_; rintro e w' ⟨rfl, rfl⟩))
      go_ret2
      exact ⟨ret_ib (by simp [tPow, tPowB, hk]) (by simp [tPowB, hk]), rfl⟩
    · by_cases h0 : k = 0
      · subst h0
        go_enter Tryd.func16, Tryd.ntmps16
        go_wp2_with (first | (go_at_call 43; refine (nuGood_any _ _).mono ?_; rintro e w' ⟨rfl, rfl⟩) | (go_at_call 49; refine (l1In_any _ _ _ _).mono ?_; rintro e w' ⟨rfl, rfl⟩))
        go_ret2
        exact ⟨ret_ib (by simp [tPow, tPowB, powR]) (by simp [tPowB, ha, hk, powR]; rfl), rfl⟩
      · by_cases hi : a = 1000000000
        · subst hi
          have h0' : (k == 0) = false := by simpa using h0
          go_enter Tryd.func16, Tryd.ntmps16
          go_wp2_with (first | (go_at_call 43; refine (nuGood_any _ _).mono ?_; rintro e w' ⟨rfl, rfl⟩) | (go_at_call 49; refine (l1In_any _ _ _ _).mono ?_; rintro e w' ⟨rfl, rfl⟩))
          go_ret2
          exact ⟨ret_ib (by simp [tPow, tPowB, powR, h0, hk, ha]) (by simp [tPowB, ha, hk, powR, h0]), rfl⟩
        · have h0' : (k == 0) = false := by simpa using h0
          have hi' : (a == 1000000000) = false := by simpa using hi
          have hp : powR a k = k * a := by simp [powR, h0, hi]
          have hb := mul_bd (a := a) (k := k) (by have := numB_cases ha; omega) ((inB_iff _ _ _).1 hk)
          obtain ⟨hb1, hb2⟩ := hb
          have hpw := orZ_pow a k ha hk
          rw [hp] at hpw
          have hpb : tPowB a k = numB (k * a) := by simp [tPowB, ha, hk, hp]
          have HW := Lib.hid hpw
          have HB := Lib.hid hpb
          clear hp hpw hpb h0 hi
          go_enter Tryd.func16, Tryd.ntmps16
          go_wp2_with (first | (go_at_call 43; refine (nuGood_any _ _).mono ?_; rintro e w' ⟨rfl, rfl⟩) | (go_at_call 49; refine (l1In_any _ _ _ _).mono ?_; rintro e w' ⟨rfl, rfl⟩) | (go_at_call 50; refine (nuIf_any _ _).mono ?_; rintro e w' ⟨rfl, rfl⟩))
          go_ret2
          exact ⟨ret_ib HW.out HB.out.symm, rfl⟩
/-- j times a, one after the other. -/
def powN (a : Int) : Nat → Int
  | 0 => 0
  | j + 1 => plusI (powN a j) a
theorem powN_inf (j : Nat) : powN 1000000000 (j + 1) = 1000000000 := by simp [powN, plusI]
theorem powN_fin (a : Int) (ha : -1000000 ≤ a ∧ a ≤ 1000000) : ∀ j : Nat, j ≤ 20 → powN a j = j * a
  | 0, _ => by simp [powN]
  | j + 1, h => by
    have ih := powN_fin a ha j (by omega)
    have hb := mul_bd ha (k := j) (by omega)
    simp only [powN, ih, plusI]
    rw [if_neg (by omega)]
    push_cast
    rw [Int.add_mul, Int.one_mul]
theorem powN_powR (a : Int) (ha : numB a = true) (j : Nat) (hj : j ≤ 20) : powN a j = powR a j := by
  rcases numB_cases ha with rfl | h
  · cases j with
    | zero => simp [powN, powR]
    | succ j => rw [powN_inf]; simp [powR]; omega
  · rw [powN_fin a h j hj]
    unfold powR
    split
    · next h0 => rw [h0]; simp
    · rw [if_neg (by omega)]
theorem powN_bd (a : Int) (ha : numB a = true) (j : Nat) (hj : j ≤ 20) : -1000000000000 ≤ powN a j ∧ powN a j ≤ 1000000000000 := by
  rcases numB_cases ha with rfl | h
  · cases j with
    | zero => simp [powN]
    | succ j => rw [powN_inf]; omega
  · rw [powN_fin a h j hj]; have := mul_bd h (k := j) (by omega); omega
set_option maxHeartbeats 400000 in
theorem implTropPower_any (a k : Int) (w : World) (hN : Neut w) : Calls Tryd.prog 15 #[.int .i64 a, .int .i64 k] w fun e w' => e = .returned (.tuple #[.int .i64 (tPow a k), .bool (tPowB a k)]) ∧ w = w' := by
  cases ha : numB a
  · go_enter Tryd.func15, Tryd.ntmps15
    go_wp2_with (first | (go_at_call 13; refine (isNumber_any _ _).mono ?_; rintro e w' ⟨rfl, rfl⟩))
    go_ret2
    exact ⟨ret_ib (by simp [tPow, tPowB, ha]) (by simp [tPowB, ha]), rfl⟩
  · by_cases h0 : k < 0
    · have hk : inB k 0 20 = false := by simp [inB]; omega
      go_enter Tryd.func15, Tryd.ntmps15
      go_wp2_with (first | (go_at_call 13; refine (isNumber_any _ _).mono ?_; rintro e w' ⟨rfl, rfl⟩))
      go_ret2
      exact ⟨ret_ib (by simp [tPow, tPowB, hk]) (by simp [tPowB, hk]), rfl⟩
    · by_cases h20 : 20 < k
      · have hk : inB k 0 20 = false := by simp [inB]; omega
        go_enter Tryd.func15, Tryd.ntmps15
        go_wp2_with (first | (go_at_call 13; refine (isNumber_any _ _).mono ?_; rintro e w' ⟨rfl, rfl⟩))
        go_ret2
        exact ⟨ret_ib (by simp [tPow, tPowB, hk]) (by simp [tPowB, hk]), rfl⟩
      · obtain ⟨n, rfl⟩ := Int.eq_ofNat_of_zero_le (show 0 ≤ k by omega)
        have hk : inB (n : Int) 0 20 = true := (inB_iff _ _ _).2 (by omega)
        have hn : n ≤ 20 := by omega
        have HP := Lib.hid (powN_powR a ha n hn)
        have HW := Lib.hid (orZ_pow a n ha hk)
        have HB := Lib.hid (show tPowB a n = numB (powR a n) by simp [tPowB, ha, hk])
        have hab := numB_bd ha
        have hN1 := hN.2
        clear hk h0 h20
        go_enter Tryd.func15, Tryd.ntmps15
        go_wp2_with (first | (go_at_call 13; refine (isNumber_any _ _).mono ?_; rintro e w' ⟨rfl, rfl⟩))
        go_loop [6, 21] (fun x i => ∃ j : Nat, j ≤ n ∧ i = .int .i64 j ∧ x = .int .i64 (powN a j)) (fun _ i => n - (intOf i).toNat)
        case atStart => exact ⟨0, by omega, rfl, rfl⟩
        case round =>
          obtain ⟨j, hj, rfl, rfl⟩ := hrel
          by_cases hlt : j < n
          · have hb := powN_bd a ha j (by omega)
            go_wp2_with (first | (go_at_call 42; refine (freeProduct_any _ _ _ hb (by omega)).mono ?_; rintro e w' ⟨rfl, rfl⟩))
            go_round
            case rel => exact ⟨j + 1, by omega, by go_num, rfl⟩
            case measure => simp [intOf]; omega
          · obtain rfl : j = n := by omega
            go_wp2_with (first | (go_at_call 41; refine (numberOrNone_any _ _).mono ?_; rintro e w' ⟨rfl, rfl⟩))
            go_ret2
            exact ⟨ret_ib (by rw [HP.out, HW.out]) (by rw [HP.out, HB.out]), rfl⟩
/-- The places below k of the elements equal to m. -/
def plc (zs : List Int) (m : Int) : Nat → List Int
  | 0 => []
  | k + 1 => plc zs m k ++ (if (gd zs k == m) = true then [(k : Int)] else [])
def places (zs : List Int) : List Int := plc zs (leastL zs) zs.length
theorem plc_yes {zs : List Int} {m : Int} {k : Nat} (h : (gd zs k == m) = true) : plc zs m (k + 1) = plc zs m k ++ [(k : Int)] := by simp only [plc, if_pos h]
theorem plc_no {zs : List Int} {m : Int} {k : Nat} (h : (gd zs k == m) = false) : plc zs m (k + 1) = plc zs m k := by simp [plc, h]
theorem plc_len (zs : List Int) (m : Int) (k : Nat) : (plc zs m k).length ≤ k := by
  induction k with
  | zero => simp [plc]
  | succ k ih =>
    simp only [plc, List.length_append]
    split <;> simp <;> omega
def lpRes (zs : List Int) : List Int := if listB zs = true then places zs else []
theorem lpRes_yes {zs : List Int} (h : listB zs = true) : lpRes zs = places zs := if_pos h
theorem lpRes_no {zs : List Int} (h : listB zs = false) : lpRes zs = [] := if_neg (by simp [h])
theorem lpRes_le {zs : List Int} {m : Nat} (h : zs.length ≤ m) : (lpRes zs).length ≤ m := by
  unfold lpRes; split
  · exact Nat.le_trans (plc_len _ _ _) h
  · simp
set_option maxHeartbeats 400000 in
theorem nuPlaces_any (w : World) (B : Nat) (v : Value) (zs : List Int) (h : IS w B v zs) (hl : zs.length ≤ 20) : Calls Tryd.prog 63 #[v] w fun e w' => GivesI (places zs) w e w' := by
  have h0 := Lib.hid h
  obtain ⟨A, cap, rfl, hm, hp⟩ := h.parts
  have HP := Lib.hid hp
  clear hp h hm
  obtain ⟨i0, hi, hz0, hz1, hz2⟩ := info_parts infoInt
  go_enter Tryd.func63, Tryd.ntmps63
  go_wp2_with (go_at_call 64; refine (nuSum_any _ B _ zs h0.out).mono ?_; rintro e w' ⟨rfl, rfl⟩)
  go_loopw [3, 11] (fun o i wr => ∃ k : Nat, k ≤ zs.length ∧ i = .int .i64 k ∧ IS wr w.heap.size o (plc zs (leastL zs) k) ∧ Below w.heap.size w wr) (fun _ i _ => zs.length - (intOf i).toNat)
  case atStart => exact ⟨0, by omega, rfl, IS.nil_ _ _, Below.refl _ _⟩
  case round =>
    obtain ⟨k, hk, rfl, ho, hb⟩ := hrel
    by_cases hlt : k < zs.length
    · obtain ⟨g, rfl, hc0⟩ := HP.out k hlt
      have hc := (hb.cell (p := ⟨g, k, none⟩) (cell_lt hc0)).trans hc0
      clear hc0
      cases hq : gd zs k == leastL zs
      · have HPL := Lib.hid (plc_no hq)
        go_wp2
        go_roundw
        case rel => exact ⟨k + 1, by omega, by go_num, by rw [HPL.out]; exact ho, hb⟩
        case measure => simp [intOf]; omega
      · have HPL := Lib.hid (plc_yes hq)
        have hpl := plc_len zs (leastL zs) k
        have ho' : wr.ownsRow w.heap.size 3 1 u3 (plc zs (leastL zs) k).length (ints (plc zs (leastL zs) k)) := ho
        go_wp2_with (at_builtin; refine wpList_append_own _ rfl _ _ 33 rfl w.heap.size 3 i0 (.int .i64 0) 1 8 Tryd.underlying33 hi hz0 hz1 hz2 rfl (by decide) _ _ _ rfl (ho'.alloc _) ⟨wr.heap.size, 0, none⟩ 1 1 [.int .i64 (k : Int)] rfl rfl (one_new _ _) (by simp [Value.oneCell']) (by unfold maxLen; omega) (by omega) (by have := hb.size; simp; omega) ?_; intro v' w1 hown' hgrow hnil)
        have hb' : Below w.heap.size w w1 := (hb.alloc hb.size _).grown hgrow (by have := hb.size; simp; omega) (fun g' hg' => (World.ownsRow.lt ho' g' hg').1)
        have hrow := IS.snoc rfl hown'
        rw [← HPL.out] at hrow
        go_wp2
        go_roundw
        case rel => exact ⟨k + 1, by omega, by go_num, hrow, hb'⟩
        case measure => simp [intOf]; omega
    · go_wp2
      go_ret
      have hk' : k = zs.length := by omega
      subst hk'
      exact ⟨_, rfl, ho, hb⟩
theorem specLeastPlaces_any (w : World) (B : Nat) (v : Value) (zs : List Int) (h : IS w B v zs) : Calls Tryd.prog 24 #[v] w fun e w' => GivesIB (listB zs) (lpRes zs) w e w' := by
  cases hl : listB zs
  · go_enter Tryd.func24, Tryd.ntmps24
    go_wp2_with (first | (go_at_call 62; refine (nuList_any _ B _ zs h).mono ?_; rintro e w' ⟨rfl, rfl⟩))
    go_ret2
    exact givesIB_nil rfl (lpRes_no hl) (Below.refl _ _)
  · have hp := (list_parts hl).1
    go_enter Tryd.func24, Tryd.ntmps24
    go_wp2_with (first | (go_at_call 62; refine (nuList_any _ B _ zs h).mono ?_; rintro e w' ⟨rfl, rfl⟩) | (go_at_call 63; refine (nuPlaces_any _ B _ zs h hp).mono ?_; rintro e w1 ⟨r, rfl, hr, hb⟩))
    go_ret2
    exact givesIB_yes rfl (by rw [lpRes_yes hl]; exact hr) hb
set_option maxHeartbeats 400000 in
theorem implLeastPlaces_any (w : World) (hN : Neut w) (B : Nat) (v : Value) (zs : List Int) (h : IS w B v zs) : Calls Tryd.prog 23 #[v] w fun e w' => GivesIB (listB zs) (lpRes zs) w e w' := by
  cases hls : listB zs
  · go_enter Tryd.func23, Tryd.ntmps23
    go_wp2_with (first | (go_at_call 60; refine (isNumberList_any _ B _ zs h).mono ?_; rintro e w' ⟨rfl, rfl⟩))
    go_ret2
    exact givesIB_nil rfl (lpRes_no hls) (Below.refl _ _)
  · have hl := (list_parts hls).1
    have h0 := Lib.hid h
    obtain ⟨A, cap, rfl, hm, hp⟩ := h.parts
    have HP := Lib.hid hp
    clear hp h hm
    obtain ⟨i0, hi, hz0, hz1, hz2⟩ := info_parts infoInt
    go_enter Tryd.func23, Tryd.ntmps23
    go_wp2_with (first | (go_at_call 60; refine (isNumberList_any _ B _ zs h0.out).mono ?_; rintro e w' ⟨rfl, rfl⟩) | (go_at_call 61; refine (leastOf_any _ hN B _ zs h0.out).mono ?_; rintro e w' ⟨rfl, rfl⟩))
    have HLS := Lib.hid hls
    clear hls
    go_loopw [5, 15] (fun o i wr => ∃ k : Nat, k ≤ zs.length ∧ i = .int .i64 k ∧ IS wr w.heap.size o (plc zs (leastL zs) k) ∧ Below w.heap.size w wr) (fun _ i _ => zs.length - (intOf i).toNat)
    case atStart => exact ⟨0, by omega, rfl, IS.nil_ _ _, Below.refl _ _⟩
    case round =>
      obtain ⟨k, hk, rfl, ho, hb⟩ := hrel
      by_cases hlt : k < zs.length
      · obtain ⟨g, rfl, hc0⟩ := HP.out k hlt
        have hc := (hb.cell (p := ⟨g, k, none⟩) (cell_lt hc0)).trans hc0
        clear hc0
        cases hq : gd zs k == leastL zs
        · have HPL := Lib.hid (plc_no hq)
          go_wp2
          go_roundw
          case rel => exact ⟨k + 1, by omega, by go_num, by rw [HPL.out]; exact ho, hb⟩
          case measure => simp [intOf]; omega
        · have HPL := Lib.hid (plc_yes hq)
          have hpl := plc_len zs (leastL zs) k
          have ho' : wr.ownsRow w.heap.size 3 1 u5 (plc zs (leastL zs) k).length (ints (plc zs (leastL zs) k)) := ho
          go_wp2_with (at_builtin; refine wpList_append_own _ rfl _ _ 33 rfl w.heap.size 3 i0 (.int .i64 0) 1 8 Tryd.underlying33 hi hz0 hz1 hz2 rfl (by decide) _ _ _ rfl (ho'.alloc _) ⟨wr.heap.size, 0, none⟩ 1 1 [.int .i64 (k : Int)] rfl rfl (one_new _ _) (by simp [Value.oneCell']) (by unfold maxLen; omega) (by omega) (by have := hb.size; simp; omega) ?_; intro v' w1 hown' hgrow hnil)
          have hb' : Below w.heap.size w w1 := (hb.alloc hb.size _).grown hgrow (by have := hb.size; simp; omega) (fun g' hg' => (World.ownsRow.lt ho' g' hg').1)
          have hrow := IS.snoc rfl hown'
          rw [← HPL.out] at hrow
          go_wp2
          go_roundw
          case rel => exact ⟨k + 1, by omega, by go_num, hrow, hb'⟩
          case measure => simp [intOf]; omega
      · go_wp2
        go_ret2
        have hk' : k = zs.length := by omega
        subst hk'
        exact givesIB_yes rfl (by rw [lpRes_yes HLS.out]; exact ho) hb
/-- Does a list vanish. -/
def vanB (zs : List Int) : Bool := (leastL zs == 1000000000) || decide (1 < (places zs).length)
def vanR (zs : List Int) : Bool := listB zs && vanB zs
def SaysBB (a b : Bool) (w : World) (e : Ending) (w' : World) : Prop := e = .returned (.tuple #[.bool a, .bool b]) ∧ Below w.heap.size w w'
theorem ret_bb {a b c d : Bool} (h : a = b) (h' : c = d) : Ending.returned (.tuple #[.bool a, .bool c]) = .returned (.tuple #[.bool b, .bool d]) := by rw [h, h']
theorem nuVanish_any (w : World) (B : Nat) (v : Value) (zs : List Int) (h : IS w B v zs) (hl : zs.length ≤ 20) : Calls Tryd.prog 65 #[v] w fun e w' => e = .returned (.bool (vanB zs)) ∧ Below w.heap.size w w' := by
  cases hq : leastL zs == 1000000000
  · go_enter Tryd.func65, Tryd.ntmps65
    go_wp2_with (first | (go_at_call 64; refine (nuSum_any _ B _ zs h).mono ?_; rintro e w' ⟨rfl, rfl⟩) | (go_at_call 63; refine (nuPlaces_any _ B _ zs h hl).mono ?_; rintro e w1 ⟨r, rfl, hr, hb⟩; obtain ⟨A, cap, rfl, hm, hp⟩ := hr.parts; have HP := Lib.hid hp; clear hp))
    go_ret
    exact ⟨ret_bool (by simp [vanB, hq]; omega), hb⟩
  · go_enter Tryd.func65, Tryd.ntmps65
    go_wp2_with (first | (go_at_call 64; refine (nuSum_any _ B _ zs h).mono ?_; rintro e w' ⟨rfl, rfl⟩))
    go_ret
    exact ⟨ret_bool (by simp [vanB, hq]), Below.refl _ _⟩
theorem specDoesVanish_any (w : World) (B : Nat) (v : Value) (zs : List Int) (h : IS w B v zs) : Calls Tryd.prog 28 #[v] w fun e w' => SaysBB (vanR zs) (listB zs) w e w' := by
  cases hl : listB zs
  · go_enter Tryd.func28, Tryd.ntmps28
    go_wp2_with (first | (go_at_call 62; refine (nuList_any _ B _ zs h).mono ?_; rintro e w' ⟨rfl, rfl⟩))
    go_ret2
    exact ⟨ret_bb (by simp [vanR, hl]) rfl, Below.refl _ _⟩
  · have hp := (list_parts hl).1
    go_enter Tryd.func28, Tryd.ntmps28
    go_wp2_with (first | (go_at_call 62; refine (nuList_any _ B _ zs h).mono ?_; rintro e w' ⟨rfl, rfl⟩) | (go_at_call 65; refine (nuVanish_any _ B _ zs h hp).mono ?_; rintro e w1 ⟨rfl, hb⟩))
    go_ret2
    exact ⟨ret_bb (by simp [vanR, hl]) rfl, hb⟩
theorem implDoesVanish_any (w : World) (hN : Neut w) (B : Nat) (v : Value) (zs : List Int) (h : IS w B v zs) : Calls Tryd.prog 27 #[v] w fun e w' => SaysBB (vanR zs) (listB zs) w e w' := by
  cases hl : listB zs
  · go_enter Tryd.func27, Tryd.ntmps27
    go_wp2_with fail
    refine (implLeastPlaces_any _ hN B _ zs h).mono ?_
    rintro e w1 ⟨r, rfl, hr, hb⟩
    go_wp2_with fail
    go_ret2
    exact ⟨ret_bb (by simp [vanR, hl]) rfl, hb⟩
  · have HLS := Lib.hid hl
    go_enter Tryd.func27, Tryd.ntmps27
    go_wp2_with fail
    refine (implLeastPlaces_any _ hN B _ zs h).mono ?_
    rintro e w1 ⟨r, rfl, hr, hb⟩
    rw [lpRes_yes HLS.out] at hr
    obtain ⟨A, cap, rfl, hm, hp⟩ := hr.parts
    have HP := Lib.hid hp
    clear hp
    have h1 := h.below hb
    cases hq : leastL zs == 1000000000
    all_goals
      go_wp2_with (first | (go_at_call 61; refine (leastOf_any _ (hN.below hb) B _ zs h1).mono ?_; rintro e w' ⟨rfl, rfl⟩))
      go_ret2
      exact ⟨ret_bb (by simp [vanR, vanB, HLS.out, hq]; try omega) rfl, hb⟩
end Go.Proofs.YtmeabhfhjnabdaaDoor
