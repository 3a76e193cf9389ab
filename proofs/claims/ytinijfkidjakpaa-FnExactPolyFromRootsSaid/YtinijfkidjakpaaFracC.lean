/-
  Quotients, order, rounding and means, of the program and of the model: what each call returns.
  No condition but that the parts are integers of Go's int, and that a slice reads as the list that is named.
-/
import Derived.Test.YtinijfkidjakpaaFracB
namespace Go.Proofs.Ytinijfkidjakpaa
set_option linter.unusedSimpArgs false
set_option linter.unusedVariables false
open Go.ChangeShapes Go.WideShapes Go.ChangeAt Go.RowKit

/-- Are both numbers a quotient's parts. -/
def partB (n : Int) : Bool := inB n (-1000000000000) 1000000000000
theorem partB_wide {n : Int} (h : partB n = true) : wide n := by
  have := (inB_iff _ _ _).1 h
  unfold wide; omega
theorem new1 (w : World) : F2 (w.alloc (.cells #[.int .i64 0, .int .i64 0] 38)) w.heap.size 0 0 := F2.new w 0 0
theorem isPart_any (n : Int) (w : World) : Calls Try.prog 92 #[.int .i64 n] w fun e w' => e = .returned (.bool (partB n)) ∧ w = w' := by
  by_cases h2 : -1000000000000 ≤ n
  · by_cases h3 : n ≤ 1000000000000
    all_goals
      go_enter Try.func92, Try.ntmps92
      go_wp2
      go_ret
      exact ⟨ret_bool (by simp [partB, inB, h2, h3]), rfl⟩
  · go_enter Try.func92, Try.ntmps92
    go_wp2
    go_ret
    exact ⟨ret_bool (by simp [partB, inB]; omega), rfl⟩
set_option maxHeartbeats 1000000 in
theorem implFracOf_any (n d : Int) (w : World) : Calls Try.prog 76 #[.int .i64 n, .int .i64 d] w fun x w' => GivesOp (partB n && partB d) n d w x w' := by
  cases h1 : partB n
  case' true => cases h2 : partB d
  case true.true =>
    have HN := Lib.hid (partB_wide h1)
    have HD := Lib.hid (partB_wide h2)
    go_enter Try.func76, Try.ntmps76
    go_wp2_with (first | (go_at_call 92; refine (isPart_any _ _).mono ?_; rintro e w' ⟨rfl, rfl⟩) | (go_at_call 93; refine (quotientOrNone_any _ _ _ HN.out HD.out).mono ?_; rintro x w1 ⟨rfl, b1⟩; obtain ⟨c0, c1, f0, f1⟩ := (new1 w).below b1))
    refine bodyPost_ret ((F2.store ⟨c0, c1, f0, f1⟩ _ _).results rfl rfl rfl) rfl ?_
    exact givesOp_yes rfl rfl rfl rfl (bel_at (by omega) (by go_grown) b1 _ _)
  all_goals
    go_enter Try.func76, Try.ntmps76
    go_wp2_with (go_at_call 92; refine (isPart_any _ _).mono ?_; rintro e w' ⟨rfl, rfl⟩)
    go_returns
    exact givesOp_no (by simp [partB, *]) (by go_grown)
/-- The order of two numbers. -/
def cmpI (x y : Int) : Int := if x < y then -1 else if y < x then 1 else 0
theorem F2.below2 {w w1 : World} {g h : Nat} {a b c d : Int} (H : F2 w g a b ∧ F2 w h c d) (hb : Below w.heap.size w w1) : F2 w1 g a b ∧ F2 w1 h c d := ⟨H.1.below hb, H.2.below hb⟩
def GivesC (g : Bool) (v : Int) (w : World) (x : Ending) (w' : World) : Prop := x = .returned (.tuple #[.int .i64 (okF g v), .bool g]) ∧ Below w.heap.size w w'
theorem givesC_no {g : Bool} {v : Int} {w w' : World} (h : g = false) (hb : Below w.heap.size w w') : GivesC g v w (.returned (.tuple #[.int .i64 0, .bool false])) w' := by subst h; exact ⟨rfl, hb⟩
theorem givesC_yes {g : Bool} {u v : Int} {w w' : World} (h : g = true) (hu : u = v) (hb : Below w.heap.size w w') : GivesC g v w (.returned (.tuple #[.int .i64 u, .bool true])) w' := by subst h hu; exact ⟨rfl, hb⟩
theorem okWide {a b c d : Int} (h1 : frB a b = true) (h2 : frB c d = true) : (-1000000000000000000 ≤ a * d ∧ a * d ≤ 1000000000000000000) ∧ (-1000000000000000000 ≤ c * b ∧ c * b ≤ 1000000000000000000) := by
  obtain ⟨ha, hb⟩ := frB_lim h1
  obtain ⟨hc, hd⟩ := frB_lim h2
  exact ⟨mul9 ha hd, mul9 hc hb⟩
theorem l1Sign_any (n : Int) (w : World) : Calls Try.prog 79 #[.int .i64 n] w fun e w' => e = .returned (.int .i64 (cmpI n 0)) ∧ w = w' := by
  go_enter Try.func79, Try.ntmps79
  go_wp2
  all_goals
    go_ret
    exact ⟨ret_i64 (by unfold cmpI; (repeat' split) <;> omega), rfl⟩
theorem frCmp_any (a b c d : Int) (w : World) (h1 : frB a b = true) (h2 : frB c d = true) : Calls Try.prog 52 #[fracV a b, fracV c d] w fun e w' => e = .returned (.int .i64 (cmpI (a * d) (c * b))) ∧ Below w.heap.size w w' := by
  obtain ⟨⟨p1, p2⟩, q1, q2⟩ := okWide h1 h2
  clear h1 h2
  go_enter Try.func52, Try.ntmps52
  go_wp2_with fail
  refine (l1Sign_any _ _).mono ?_
  rintro e w' ⟨rfl, rfl⟩
  go_wp2
  go_ret
  exact ⟨ret_i64 (by unfold cmpI; (repeat' split) <;> omega), by go_grown⟩
theorem isNaN_any (n : Int) (w : World) : Calls Try.prog 96 #[.int .i64 n] w fun e w' => e = .returned (.bool false) ∧ w = w' := by
  go_enter Try.func96, Try.ntmps96
  go_wp2
  go_ret
  exact ⟨ret_bool (by simp), rfl⟩
theorem cmpCompare_any (x y : Int) (w : World) : Calls Try.prog 82 #[.int .i64 x, .int .i64 y] w fun e w' => e = .returned (.int .i64 (cmpI x y)) ∧ w = w' := by
  by_cases h : x < y
  case' neg => by_cases h' : y < x
  all_goals
    go_enter Try.func82, Try.ntmps82
    go_wp2_with (go_at_call 96; refine (isNaN_any _ _).mono ?_; rintro e w' ⟨rfl, rfl⟩)
    go_ret
    exact ⟨ret_i64 (by unfold cmpI; (repeat' split) <;> omega), rfl⟩
/-- A quotient rounded down. -/
def floorI (n d : Int) : Int := if n.tmod d < 0 then n.tdiv d - 1 else n.tdiv d
theorem tmod_sign (n d : Int) : (n < 0 ∧ n.tmod d ≠ 0) ↔ n.tmod d < 0 := by
  constructor
  · rintro ⟨h1, h2⟩
    have h3 : (-n).tmod d = -(n.tmod d) := Int.neg_tmod n d
    have h4 := Int.tmod_nonneg d (show 0 ≤ -n by omega)
    omega
  · intro h
    refine ⟨?_, by omega⟩
    by_cases h0 : 0 ≤ n
    · have := Int.tmod_nonneg d h0
      omega
    · omega
theorem tdiv_lim {n d : Int} (h : Lim n) : Lim (n.tdiv d) := by
  have h1 := Int.natAbs_tdiv n d
  have h2 := Nat.div_le_self n.natAbs d.natAbs
  unfold Lim at *
  have h3 : (n.tdiv d).natAbs ≤ n.natAbs := by rw [h1]; exact h2
  omega
theorem floorI_lim {n d : Int} (h : Lim n) : -1000000001 ≤ floorI n d ∧ floorI n d ≤ 1000000001 := by
  have := tdiv_lim (d := d) h
  unfold Lim at this
  unfold floorI
  split <;> omega
theorem frFloor_any (n d : Int) (w : World) (h : Lim n) (hd : 1 ≤ d) : Calls Try.prog 83 #[.int .i64 n, .int .i64 d] w fun e w' => e = .returned (.int .i64 (floorI n d)) ∧ w = w' := by
  obtain ⟨h1, h2⟩ := h
  obtain ⟨q1, q2⟩ := tdiv_lim (d := d) ⟨h1, h2⟩
  have hs := tmod_sign n d
  have hz : (d == 0) = false := by simp; omega
  by_cases hn : n < 0
  · cases hm : (n.tmod d != 0)
    · have HF := Lib.hid (show floorI n d = n.tdiv d from if_neg (by simp at hm; omega))
      clear hs
      go_enter Try.func83, Try.ntmps83
      go_wp2
      go_ret
      exact ⟨ret_i64 (by rw [HF.out]), rfl⟩
    · have HF := Lib.hid (show floorI n d = n.tdiv d - 1 from if_pos (hs.1 ⟨hn, by simpa using hm⟩))
      clear hs
      go_enter Try.func83, Try.ntmps83
      go_wp2
      go_ret
      exact ⟨ret_i64 (by rw [HF.out]), rfl⟩
  · have HF := Lib.hid (show floorI n d = n.tdiv d from if_neg (by omega))
    clear hs
    go_enter Try.func83, Try.ntmps83
    go_wp2
    go_ret
    exact ⟨ret_i64 (by rw [HF.out]), rfl⟩
set_option maxHeartbeats 400000 in
theorem implFloorFrac_any (n d : Int) (w : World) : Calls Try.prog 84 #[fracV n d] w fun x w' => GivesC (frB n d) (floorI n d) w x w' := by
  cases hg : frB n d
  · go_enter Try.func84, Try.ntmps84
    go_wp2_with fail
    refine (isFrac_any _ _ _).mono ?_
    rw [hg]
    rintro x w1 ⟨rfl, b1⟩
    go_wp2_with fail
    go_ret2
    exact givesC_no rfl (bel2 (by go_grown) b1)
  · have hl := frB_lim hg
    have hb := frB_bd hg
    obtain ⟨hn1, hn2⟩ := hl.1
    obtain ⟨q1, q2⟩ := tdiv_lim (d := d) hl.1
    have hz : (d == 0) = false := by simp; omega
    have hz' : d ≠ 0 := by omega
    clear hb hl
    by_cases hm : n.tmod d < 0
    · have HF := Lib.hid (show floorI n d = n.tdiv d - 1 from if_pos hm)
      go_enter Try.func84, Try.ntmps84
      go_wp2_with fail
      refine (isFrac_any _ _ _).mono ?_
      rw [hg]
      rintro x w1 ⟨rfl, b1⟩
      obtain ⟨x0, x1, -, -⟩ := (F2.new w n d).below b1
      go_wp2
      go_ret2
      exact givesC_yes rfl (by rw [HF.out]) (bel2 (by go_grown) b1)
    · have HF := Lib.hid (show floorI n d = n.tdiv d from if_neg hm)
      go_enter Try.func84, Try.ntmps84
      go_wp2_with fail
      refine (isFrac_any _ _ _).mono ?_
      rw [hg]
      rintro x w1 ⟨rfl, b1⟩
      obtain ⟨x0, x1, -, -⟩ := (F2.new w n d).below b1
      go_wp2
      go_ret2
      exact givesC_yes rfl (by rw [HF.out]) (bel2 (by go_grown) b1)
theorem wf_lo {n : Int} (h : (Lit.int .i64 n).wf = true) : -9223372036854775808 ≤ n := by
  simp [Lit.wf, IntKind.min, IntKind.max, IntKind.signed, IntKind.bits] at h
  omega
theorem wf_hi {n : Int} (h : (Lit.int .i64 n).wf = true) : n ≤ 9223372036854775807 := by
  simp [Lit.wf, IntKind.min, IntKind.max, IntKind.signed, IntKind.bits] at h
  omega
theorem frB_neg (n d : Int) : frB (-n) d = frB n d := by
  unfold frB gI inB
  rw [Int.neg_gcd]
  congr 1
  rw [show (decide (-1000000000 ≤ -n) && decide (-n ≤ 1000000000)) = (decide (-1000000000 ≤ n) && decide (n ≤ 1000000000)) from by
    rw [Bool.and_comm]; congr 1 <;> simp <;> omega]
theorem implCeilFrac_any (n d : Int) (w : World) (hn1 : -9223372036854775808 ≤ n) (hn2 : n ≤ 9223372036854775807) : Calls Try.prog 64 #[fracV n d] w fun x w' => GivesC (frB n d) (-floorI (-n) d) w x w' := by
  by_cases hm : n = -9223372036854775808
  · have hg : frB n d = false := by
      cases h : frB n d
      · rfl
      · have := (frB_lim h).1.1; omega
    subst hm
    rw [hg]
    have HG := Lib.hid hg
    go_enter Try.func64, Try.ntmps64
    go_wp2_with fail
    refine (implFloorFrac_any _ _ _).mono ?_
    rw [show wrap64 9223372036854775808 = -9223372036854775808 by kernel_rfl, HG.out]
    rintro x w1 ⟨rfl, b1⟩
    go_wp2_with fail
    go_ret2
    exact ⟨ret_ib (by simp [okF, wrap64]) rfl, bel2 (by go_grown) b1⟩
  · have hr := Lib.hid (frB_neg n d)
    have hf : -2000000000 ≤ okF (frB n d) (floorI (-n) d) ∧ okF (frB n d) (floorI (-n) d) ≤ 2000000000 := by
      unfold okF
      split
      · rename_i h
        have h1 := (frB_lim h).1
        have := floorI_lim (n := -n) (d := d) ⟨by have := h1.2; omega, by have := h1.1; omega⟩
        omega
      · omega
    obtain ⟨v, hv⟩ : ∃ v, v = okF (frB n d) (floorI (-n) d) := ⟨_, rfl⟩
    rw [← hv] at hf
    obtain ⟨hf1, hf2⟩ := hf
    have HV := Lib.hid hv
    clear hv
    go_enter Try.func64, Try.ntmps64
    go_wp2_with fail
    refine (implFloorFrac_any _ _ _).mono ?_
    unfold GivesC
    rw [hr.out, ← HV.out]
    rintro x w1 ⟨rfl, b1⟩
    go_wp2_with fail
    go_ret2
    refine ⟨ret_ib ?_ rfl, bel2 (by go_grown) b1⟩
    rw [HV.out]
    unfold okF
    split <;> simp
end Go.Proofs.Ytinijfkidjakpaa
