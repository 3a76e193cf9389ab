/-
  The comparison of integers, the first number that is not 0: what each call returns.
  Condition: the slice reads as the list that is named.
-/
import Derived.Test.YtbapepflfgcioaaList
namespace Go.Proofs.Ytbapepflfgcioaa
set_option linter.unusedSimpArgs false
set_option linter.unusedVariables false
open Go.ChangeShapes Go.WideShapes Go.ChangeAt Go.RowKit

def cmI (a b : Int) : Int := if a < b then -1 else if b < a then 1 else 0
/-- The first number that is not 0. -/
def orL : List Int → Int
  | [] => 0
  | a :: r => if a = 0 then orL r else a
theorem orL_step (zs : List Int) (k : Nat) (hk : k < zs.length) (h : gd zs k = 0) : orL (zs.drop k) = orL (zs.drop (k + 1)) := by
  rw [List.drop_eq_getElem_cons hk, orL, if_pos (by rw [← gd_eq zs k hk]; exact h)]
theorem orL_stop (zs : List Int) (k : Nat) (hk : k < zs.length) (h : gd zs k ≠ 0) : orL (zs.drop k) = gd zs k := by
  rw [List.drop_eq_getElem_cons hk, orL, if_neg (by rw [← gd_eq zs k hk]; exact h), gd_eq zs k hk]
theorem cmI_bd (a b : Int) : -1 ≤ cmI a b ∧ cmI a b ≤ 1 := by unfold cmI; (repeat' split) <;> omega
theorem notNaN_any (a : Int) (w : World) : Calls Try.prog 126 #[.int .i64 a] w fun e w' => e = .returned (.bool false) ∧ w = w' := by
  go_enter Try.func126, Try.ntmps126
  go_wp2
  go_ret
  exact ⟨ret_bool (by simp), rfl⟩
theorem compare_any (a b : Int) (w : World) : Calls Try.prog 105 #[.int .i64 a, .int .i64 b] w fun e w' => e = .returned (.int .i64 (cmI a b)) ∧ w = w' := by
  by_cases h1 : a < b
  · go_enter Try.func105, Try.ntmps105
    go_wp2_with (go_at_call 126; refine (notNaN_any _ _).mono ?_; rintro e w' ⟨rfl, rfl⟩)
    go_ret
    exact ⟨ret_i64 (by simp [cmI, h1]), rfl⟩
  · by_cases h2 : b < a
    · go_enter Try.func105, Try.ntmps105
      go_wp2_with (go_at_call 126; refine (notNaN_any _ _).mono ?_; rintro e w' ⟨rfl, rfl⟩)
      go_ret
      exact ⟨ret_i64 (by unfold cmI; (repeat' split) <;> omega), rfl⟩
    · go_enter Try.func105, Try.ntmps105
      go_wp2_with (go_at_call 126; refine (notNaN_any _ _).mono ?_; rintro e w' ⟨rfl, rfl⟩)
      go_ret
      exact ⟨ret_i64 (by unfold cmI; (repeat' split) <;> omega), rfl⟩
theorem or_any (w : World) (B : Nat) (v : Value) (zs : List Int) (h : IS w B v zs) : Calls Try.prog 116 #[v] w fun e w' => e = .returned (.int .i64 (orL zs)) ∧ w = w' := by
  obtain ⟨A, cap, rfl, hm, hp⟩ := h.parts
  unfold maxLen at hm
  have HP := Lib.hid hp
  clear hp h
  go_enter Try.func116, Try.ntmps116
  go_wp2
  go_loop [8] (fun i => ∃ k : Nat, k ≤ zs.length ∧ i = .int .i64 k ∧ Hid (orL zs = orL (zs.drop k))) (fun i => zs.length - (intOf i).toNat)
  case atStart => exact ⟨0, by omega, rfl, Lib.hid (by simp)⟩
  case round =>
    obtain ⟨k, hk, rfl, hall⟩ := hrel
    by_cases hlt : k < zs.length
    · obtain ⟨g, rfl, hc⟩ := HP.out k hlt
      by_cases h0 : gd zs k = 0
      · have H0 := Lib.hid h0
        rw [h0] at hc
        clear h0
        go_wp2
        go_round
        case rel => exact ⟨k + 1, by omega, by go_num, Lib.hid (by rw [hall.out, orL_step zs k hlt H0.out])⟩
        case measure => simp [intOf]; omega
      · go_wp2
        go_ret
        exact ⟨ret_i64 (by rw [hall.out, orL_stop zs k hlt h0]), rfl⟩
    · go_wp2
      go_ret
      exact ⟨ret_i64 (by rw [hall.out, List.drop_eq_nil_of_le (by omega)]; rfl), rfl⟩
end Go.Proofs.Ytbapepflfgcioaa
