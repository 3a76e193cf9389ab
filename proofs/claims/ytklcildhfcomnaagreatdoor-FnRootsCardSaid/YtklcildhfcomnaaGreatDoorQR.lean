/-
  Lists of roots compared in the drawn laws.
  Conditions: both slices read as the list that is named.
-/
import Derived.Test.YtklcildhfcomnaaGreatDoorQI
import Derived.Test.YtklcildhfcomnaaGreatDoorRoots
namespace Go.Proofs.YtklcildhfcomnaaGreatDoor
set_option linter.unusedSimpArgs false
set_option linter.unusedVariables false
open Go.ChangeShapes Go.WideShapes Go.ChangeAt Go.RowKit

set_option maxHeartbeats 1000000 in
set_option maxRecDepth 100000 in
theorem qRoots_same (w : World) (B B' : Nat) (v v' : Value) (rs : List Rt) (h : RS w B v rs) (h' : RS w B' v' rs) : Calls Tryz.prog 11 #[v, v'] w fun e w' => e = .returned (.bool true) ∧ ∃ n, w' = w.drewN n := by
  obtain ⟨A, cap, rfl, hm, hp⟩ := RS.parts h
  obtain ⟨A', cap', rfl, -, hp'⟩ := RS.parts h'
  have HP := Lib.hid hp
  have HP' := Lib.hid hp'
  unfold maxLen at hm
  clear hp hp' h h'
  go_enter Tryz.func11, Tryz.ntmps11
  go_wp2
  go_loopw [13] (fun i wr => ∃ k : Nat, k ≤ rs.length ∧ i = .int .i64 k ∧ ∃ n, wr = w.drewN n) (fun i _ => rs.length - (intOf i).toNat)
  case atStart => exact ⟨0, by omega, rfl, 0, rfl⟩
  case round =>
    obtain ⟨k, hk, rfl, n, rfl⟩ := hrel
    by_cases hlt : k < rs.length
    · obtain ⟨g, rfl, a0, a1, a2⟩ := HP.out k hlt
      obtain ⟨g', rfl, b0, b1, b2⟩ := HP'.out k hlt
      obtain ⟨N, D, T, hrd⟩ : ∃ N D T, rd rs k = (N, D, T) := ⟨_, _, _, rfl⟩
      rw [hrd] at a0 a1 a2 b0 b1 b2
      clear hrd
      go_wp2
      go_quiet (fail)
      go_wp2
      go_roundw
      case rel => exact ⟨k + 1, by omega, by go_num, _, rfl⟩
      case measure => simp [intOf]; omega
    · go_wp2
      go_ret
      exact ⟨rfl, n, rfl⟩
end Go.Proofs.YtklcildhfcomnaaGreatDoor
