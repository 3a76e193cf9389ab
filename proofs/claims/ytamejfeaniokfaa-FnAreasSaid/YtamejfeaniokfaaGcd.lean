/-
  Greatest common divisors, of the program and of the model: what each call returns.
  Condition: the integers lie within bounds where a contract names them.
-/
import Derived.Test.YtamejfeaniokfaaList
import Derived.Below
import Derived.OwnWalk
import Derived.Laws.OwnMore
import Derived.LoopTactic
import Derived.Deep.QuietTactic
import Derived.BigQuiet
import Derived.RegionTactic
import Derived.Deep.RegionWith
import Derived.Handy
import Derived.Laws.ResultCell
import Derived.Lib.Hide
namespace Go.Proofs.Ytamejfeaniokfaa
set_option linter.unusedSimpArgs false
set_option linter.unusedVariables false
open Go.ChangeShapes Go.WideShapes Go.ChangeAt Go.RowKit

/-! ### Plain facts -/
/-- The greatest common divisor. -/
def gI (a b : Int) : Int := (Int.gcd a b : Int)
theorem gcd_step (a b : Int) : Int.gcd b (a.tmod b) = Int.gcd a b := by
  unfold Int.gcd
  rw [Int.natAbs_tmod, Nat.gcd_comm a.natAbs, Nat.gcd_rec b.natAbs a.natAbs, Nat.gcd_comm]
theorem tmod_lt (a b : Int) (h : b ≠ 0) : (a.tmod b).natAbs < b.natAbs := by
  rw [Int.natAbs_tmod]; exact Nat.mod_lt _ (by omega)
theorem gcd_end (a b x : Int) (h : Int.gcd x 0 = Int.gcd a b) : gI a b = (x.natAbs : Int) := by
  unfold gI; rw [← h]; simp [Int.gcd]
/-- Within what an int holds, with room. -/
def wide (a : Int) : Prop := -4000000000000000000 ≤ a ∧ a ≤ 4000000000000000000
theorem wide_tmod {a b : Int} (ha : wide a) (hb : b ≠ 0) (hw : wide b) : wide (a.tmod b) := by
  have := tmod_lt a b hb
  unfold wide at *
  omega
theorem gI_pos {n d : Int} (h : d ≠ 0) : 1 ≤ gI n d := by
  unfold gI
  have : 0 < Int.gcd n d := Int.gcd_pos_iff.2 (.inr h)
  omega
theorem gI_le {n d : Int} (h : d ≠ 0) : gI n d ≤ d.natAbs := by
  unfold gI
  have : Int.gcd n d ≤ d.natAbs := Nat.le_of_dvd (by omega) (Nat.gcd_dvd_right _ _)
  omega
set_option maxHeartbeats 400000 in
theorem greatestDivisor_any (a b : Int) (w : World) (ha : wide a) (hb : wide b) : Calls Try.prog 30 #[.int .i64 a, .int .i64 b] w fun e w' => e = .returned (.int .i64 (gI a b)) ∧ ∃ n, w' = w.drewN n := by
  go_enter Try.func30, Try.ntmps30
  go_wp2
  go_loopw [0, 1] (fun x y wr => ∃ a' b' : Int, x = .int .i64 a' ∧ y = .int .i64 b' ∧ Hid (wide a') ∧ Hid (wide b') ∧ Hid (Int.gcd a' b' = Int.gcd a b) ∧ ∃ n, wr = w.drewN n) (fun _ y _ => (intOf y).natAbs)
  case atStart => exact ⟨a, b, rfl, rfl, Lib.hid ha, Lib.hid hb, Lib.hid rfl, 0, rfl⟩
  case round =>
    obtain ⟨a', b', rfl, rfl, h1, h2, h3, n, rfl⟩ := hrel
    obtain ⟨hx1, hx2⟩ := h1.out
    obtain ⟨hy1, hy2⟩ := h2.out
    by_cases hz : b' = 0
    · subst hz
      go_wp2
      all_goals
        go_ret
        exact ⟨ret_i64 (by rw [gcd_end a b a' h3.out]; omega), n, rfl⟩
    · have hne : (b' == 0) = false := by simpa using hz
      go_wp2
      go_quiet (fail)
      go_wp2
      go_roundw
      case rel => exact ⟨b', a'.tmod b', rfl, by go_num, h2, Lib.hid (wide_tmod h1.out hz h2.out), Lib.hid (by rw [gcd_step]; exact h3.out), _, World.drewN_drewN _ _ _⟩
      case measure => simp only [intOf]; exact tmod_lt a' b' hz
theorem l1Most_any (a b : Int) (w : World) : Calls Try.prog 42 #[.int .i64 a, .int .i64 b] w fun e w' => e = .returned (.int .i64 (max a b)) ∧ w = w' := by
  go_enter Try.func42, Try.ntmps42
  go_wp2
  all_goals
    go_ret
    exact ⟨ret_i64 (by omega), rfl⟩
theorem l1Abs_any (a : Int) (w : World) (ha : wide a) : Calls Try.prog 73 #[.int .i64 a] w fun e w' => e = .returned (.int .i64 (a.natAbs : Int)) ∧ w = w' := by
  obtain ⟨h1, h2⟩ := ha
  go_enter Try.func73, Try.ntmps73
  go_wp2_with (go_at_call 42; refine (l1Most_any _ _ _).mono ?_; rintro e w' ⟨rfl, rfl⟩)
  go_ret
  exact ⟨ret_i64 (by omega), rfl⟩
set_option maxHeartbeats 400000 in
theorem frGcd_any (a b : Int) (w : World) (ha : wide a) (hb : wide b) : Calls Try.prog 55 #[.int .i64 a, .int .i64 b] w fun e w' => e = .returned (.int .i64 (gI a b)) ∧ w = w' := by
  go_enter Try.func55, Try.ntmps55
  go_wp2
  go_loop [0, 1] (fun x y => ∃ a' b' : Int, x = .int .i64 a' ∧ y = .int .i64 b' ∧ Hid (wide a') ∧ Hid (wide b') ∧ Hid (Int.gcd a' b' = Int.gcd a b)) (fun _ y => (intOf y).natAbs)
  case atStart => exact ⟨a, b, rfl, rfl, Lib.hid ha, Lib.hid hb, Lib.hid rfl⟩
  case round =>
    obtain ⟨a', b', rfl, rfl, h1, h2, h3⟩ := hrel
    obtain ⟨hx1, hx2⟩ := h1.out
    obtain ⟨hy1, hy2⟩ := h2.out
    by_cases hz : b' = 0
    · subst hz
      go_wp2_with (go_at_call 73; refine (l1Abs_any _ _ h1.out).mono ?_; rintro e w' ⟨rfl, rfl⟩)
      all_goals
        go_ret
        exact ⟨ret_i64 (by rw [gcd_end a b a' h3.out]), rfl⟩
    · have hne : (b' == 0) = false := by simpa using hz
      go_wp2
      go_round
      case rel => exact ⟨b', a'.tmod b', rfl, by go_num, h2, Lib.hid (wide_tmod h1.out hz h2.out), Lib.hid (by rw [gcd_step]; exact h3.out)⟩
      case measure => simp only [intOf]; exact tmod_lt a' b' hz
end Go.Proofs.Ytamejfeaniokfaa
