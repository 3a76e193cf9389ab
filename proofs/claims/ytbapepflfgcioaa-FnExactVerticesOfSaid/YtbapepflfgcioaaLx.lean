/-
  slices.Compare at slices of integers: what the call returns.
  Condition: the slices read as the lists that are named.
-/
import Derived.Test.YtbapepflfgcioaaCmp
import Derived.Test.YtbapepflfgcioaaInc
namespace Go.Proofs.Ytbapepflfgcioaa
set_option linter.unusedSimpArgs false
set_option linter.unusedVariables false
open Go.ChangeShapes Go.WideShapes Go.ChangeAt Go.RowKit

/-- A slice value that reads as a list, from the start of a block on. -/
def RdV (w : World) (v : Value) (zs : List Int) : Prop := ∃ A cap, v = .slice A zs.length cap ∧ zs.length ≤ maxLen ∧ ∀ k, k < zs.length → ∃ g, A = some ⟨g, 0, none⟩ ∧ w.cell? ⟨g, k, none⟩ = some (.int .i64 (gd zs k))
/-- How lists are compared. -/
def cmpLx (zs ys : List Int) : Int := if lxL zs ys = true then -1 else if zs = ys then 0 else 1
theorem lx_pre {zs ys : List Int} {k : Nat} (h : zs.take k = ys.take k) : lxL zs ys = lxL (zs.drop k) (ys.drop k) := by
  conv => lhs; rw [← List.take_append_drop k zs, ← List.take_append_drop k ys, h]
  exact lxL_app _ _ _
theorem cmpLx_short {zs ys : List Int} {k : Nat} (h : zs.take k = ys.take k) (h1 : k < zs.length) (h2 : ys.length ≤ k) : cmpLx zs ys = 1 := by
  unfold cmpLx
  rw [lx_pre h, List.drop_eq_getElem_cons h1, List.drop_eq_nil_of_le h2, if_neg (by simp [lxL]), if_neg (fun e => by rw [e] at h1; omega)]
theorem cmpLx_diff {zs ys : List Int} {k : Nat} (h : zs.take k = ys.take k) (h1 : k < zs.length) (h2 : k < ys.length) (hne : gd zs k ≠ gd ys k) : cmpLx zs ys = cmI (gd zs k) (gd ys k) := by
  have hl : lxL zs ys = decide (gd zs k < gd ys k) := by
    rw [lx_pre h, List.drop_eq_getElem_cons h1, List.drop_eq_getElem_cons h2, gd_eq zs k h1, gd_eq ys k h2]
    exact lxL_diff (by rw [gd_eq zs k h1, gd_eq ys k h2] at hne; exact hne)
  have he : zs ≠ ys := fun e => hne (by rw [e])
  unfold cmpLx cmI
  rw [hl]
  by_cases h3 : gd zs k < gd ys k
  · rw [if_pos (by simpa using h3), if_pos h3]
  · rw [if_neg (by simpa using h3), if_neg he, if_neg h3, if_pos (by omega)]
theorem cmpLx_end {zs ys : List Int} (h : zs.take zs.length = ys.take zs.length) : cmpLx zs ys = if zs.length < ys.length then -1 else 0 := by
  unfold cmpLx
  rw [lx_pre h, List.drop_eq_nil_of_le (Nat.le_refl _)]
  by_cases h1 : zs.length < ys.length
  · rw [List.drop_eq_getElem_cons h1, if_pos (by simp [lxL]), if_pos h1]
  · rw [List.drop_eq_nil_of_le (by omega), if_neg (by simp [lxL]), if_neg h1, if_pos]
    rw [List.take_length, List.take_of_length_le (by omega)] at h
    exact h
theorem cmpLx_lt (zs ys : List Int) : cmpLx zs ys < 0 ↔ lxL zs ys = true := by
  unfold cmpLx
  by_cases h : lxL zs ys = true
  · rw [if_pos h]; simp [h]
  · rw [if_neg h]
    constructor
    · intro h2; split at h2 <;> omega
    · intro h2; exact absurd h2 h
set_option maxHeartbeats 1000000 in
theorem compareSl_rd (w : World) (v v' : Value) (zs ys : List Int) (h : RdV w v zs) (h' : RdV w v' ys) : Calls Try.prog 91 #[v, v'] w fun e w' => e = .returned (.int .i64 (cmpLx zs ys)) ∧ w = w' := by
  obtain ⟨A, cap, rfl, hm, hp⟩ := h
  obtain ⟨A', cap', rfl, hm', hp'⟩ := h'
  have HP := Lib.hid hp
  have HP' := Lib.hid hp'
  obtain ⟨n, hn⟩ : ∃ n, n = zs.length := ⟨_, rfl⟩
  obtain ⟨n', hn'⟩ : ∃ n', n' = ys.length := ⟨_, rfl⟩
  have HN := Lib.hid hn
  have HN' := Lib.hid hn'
  rw [← hn] at hm ⊢
  rw [← hn'] at hm' ⊢
  unfold maxLen at hm hm'
  clear hp hp' hn hn'
  go_enter Try.func91, Try.ntmps91
  go_wp2
  go_loopw [11] (fun i wr => ∃ k : Nat, k ≤ n ∧ k ≤ n' ∧ i = .int .i64 k ∧ Hid (zs.take k = ys.take k) ∧ w = wr) (fun i _ => n - (intOf i).toNat)
  case atStart => exact ⟨0, by omega, by omega, rfl, Lib.hid rfl, rfl⟩
  case round =>
    obtain ⟨k, hk, hk2, rfl, hall, rfl⟩ := hrel
    by_cases hlt : k < n
    · obtain ⟨g, rfl, hc⟩ := HP.out k (by rw [← HN.out]; exact hlt)
      by_cases hl' : k < n'
      · obtain ⟨g', rfl, hc'⟩ := HP'.out k (by rw [← HN'.out]; exact hl')
        have hge : ¬ ((n' : Int) ≤ (k : Int)) := by omega
        by_cases he : gd zs k = gd ys k
        · have HE := Lib.hid (eq_next zs ys k (by rw [← HN.out]; exact hlt) (by rw [← HN'.out]; exact hl') hall.out he)
          have hz : cmI (gd zs k) (gd ys k) = 0 := by unfold cmI; rw [he]; simp
          have HC := Lib.hid (show Calls Try.prog 105 #[.int .i64 (gd zs k), .int .i64 (gd ys k)] w fun e w' => e = .returned (.int .i64 0) ∧ w = w' by rw [← hz]; exact compare_any _ _ _)
          clear he hz
          go_wp2_with (go_at_call 105; refine HC.out.mono ?_; rintro e w' ⟨rfl, rfl⟩)
          go_roundw
          case rel => exact ⟨k + 1, by omega, by omega, by go_num, HE, by first | rfl | trivial⟩
          case measure => simp [intOf]; omega
        · have HE := Lib.hid (cmpLx_diff hall.out (by rw [← HN.out]; exact hlt) (by rw [← HN'.out]; exact hl') he)
          have hz : ¬ cmI (gd zs k) (gd ys k) = 0 := by unfold cmI; (repeat' split) <;> omega
          obtain ⟨c, hc3⟩ : ∃ c, c = cmI (gd zs k) (gd ys k) := ⟨_, rfl⟩
          have HC := Lib.hid (show Calls Try.prog 105 #[.int .i64 (gd zs k), .int .i64 (gd ys k)] w fun e w' => e = .returned (.int .i64 c) ∧ w = w' by rw [hc3]; exact compare_any _ _ _)
          rw [← hc3] at hz HE
          clear he hc3
          go_wp2_with (go_at_call 105; refine HC.out.mono ?_; rintro e w' ⟨rfl, rfl⟩)
          go_ret
          exact ⟨ret_i64 (by rw [HE.out]), rfl⟩
      · have HE := Lib.hid (cmpLx_short hall.out (by rw [← HN.out]; exact hlt) (by rw [← HN'.out]; omega))
        have hge : (n' : Int) ≤ (k : Int) := by omega
        go_wp2
        go_ret
        exact ⟨ret_i64 (by rw [HE.out]), rfl⟩
    · obtain rfl : k = n := by omega
      have HE := Lib.hid (show cmpLx zs ys = if k < n' then -1 else 0 by
        have := hall.out
        rw [HN.out] at this
        rw [cmpLx_end this, ← HN.out, ← HN'.out])
      by_cases hl' : k < n'
      · have hI : (k : Int) < (n' : Int) := by omega
        go_wp2
        go_ret
        exact ⟨ret_i64 (by rw [HE.out, if_pos hl']), rfl⟩
      · have hI : ¬ (k : Int) < (n' : Int) := by omega
        go_wp2
        go_ret
        exact ⟨ret_i64 (by rw [HE.out, if_neg hl']), rfl⟩
theorem compareSl_any (w : World) (B B' : Nat) (v v' : Value) (zs ys : List Int) (h : IS w B v zs) (h' : IS w B' v' ys) : Calls Try.prog 91 #[v, v'] w fun e w' => e = .returned (.int .i64 (cmpLx zs ys)) ∧ w = w' :=
  compareSl_rd w v v' zs ys h.parts h'.parts
end Go.Proofs.Ytbapepflfgcioaa
