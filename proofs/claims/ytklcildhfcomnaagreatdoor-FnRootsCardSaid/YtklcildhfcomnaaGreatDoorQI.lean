/-
  Lists of integers compared in the drawn laws.
  Conditions: both slices read as the list that is named.
-/
import Derived.Test.YtklcildhfcomnaaGreatDoorList
import Derived.Deep.DeepCutAuto
namespace Go.Proofs.YtklcildhfcomnaaGreatDoor
set_option linter.unusedSimpArgs false
set_option linter.unusedVariables false
open Go.ChangeShapes Go.WideShapes Go.ChangeAt Go.RowKit

set_option maxHeartbeats 400000 in
theorem qInts_same (w : World) (B B' : Nat) (v v' : Value) (zs : List Int) (h : IS w B v zs) (h' : IS w B' v' zs) : Calls Tryz.prog 12 #[v, v'] w fun e w' => e = .returned (.bool true) ∧ ∃ n, w' = w.drewN n := by
  obtain ⟨A, cap, rfl, hm, hp⟩ := h.parts
  obtain ⟨A', cap', rfl, hm', hp'⟩ := h'.parts
  unfold maxLen at hm hm'
  have HP := Lib.hid hp
  have HP' := Lib.hid hp'
  clear hp hp' h h'
  go_enter Tryz.func12, Tryz.ntmps12
  go_wp2
  go_loopw [13] (fun i wr => ∃ k : Nat, k ≤ zs.length ∧ i = .int .i64 k ∧ ∃ n, wr = w.drewN n) (fun i _ => zs.length - (intOf i).toNat)
  case atStart => exact ⟨0, by omega, rfl, 0, rfl⟩
  case round =>
    obtain ⟨k, hk, rfl, n, rfl⟩ := hrel
    by_cases hlt : k < zs.length
    · obtain ⟨g, rfl, hc⟩ := HP.out k hlt
      obtain ⟨g', rfl, hc'⟩ := HP'.out k hlt
      go_wp2
      go_quiet (fail)
      go_wp2
      go_roundw
      case rel => exact ⟨k + 1, by omega, by go_num, _, rfl⟩
      case measure => simp [intOf]; omega
    · go_wp2
      go_ret
      exact ⟨rfl, n, rfl⟩
end Go.Proofs.YtklcildhfcomnaaGreatDoor
