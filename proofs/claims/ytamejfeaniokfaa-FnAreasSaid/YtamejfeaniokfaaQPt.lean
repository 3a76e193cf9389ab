/-
  Rows of points compared, for the laws on polygons.
  Condition: the two rows read as the same points.
-/
import Derived.Test.YtamejfeaniokfaaPgI
namespace Go.Proofs.Ytamejfeaniokfaa
set_option linter.unusedSimpArgs false
set_option linter.unusedVariables false
open Go.ChangeShapes Go.WideShapes Go.ChangeAt Go.RowKit

theorem ptS_at {w : World} {B n cap : Nat} {A : Option Addr} {l : List Pt} (h : PtS w B (.slice A n cap) l) : ∀ k, k < l.length → ∃ g, A = some ⟨g, 0, none⟩ ∧ X2 w g (k * 2) (pd l k) := by
  obtain ⟨A', cap', he, -, hp⟩ := PtS.parts h
  cases he
  exact hp
set_option maxHeartbeats 1000000 in
theorem qPoints_same (w : World) (B B' : Nat) (v v' : Value) (l : List Pt) (h : PtS w B v l) (h' : PtS w B' v' l) : Calls Try.prog 9 #[v, v'] w fun e w' => e = .returned (.bool true) ∧ ∃ n, w' = w.drewN n := by
  obtain ⟨A, cap, rfl, hm, hp⟩ := PtS.parts h
  obtain ⟨A', cap', rfl, hm', hp'⟩ := PtS.parts h'
  unfold maxLen at hm hm'
  have HP := Lib.hid hp
  have HP' := Lib.hid hp'
  clear hp hp' h h'
  go_enter Try.func9, Try.ntmps9
  go_wp2
  go_loopw [13] (fun i wr => ∃ k : Nat, k ≤ l.length ∧ i = .int .i64 k ∧ ∃ n, wr = w.drewN n) (fun i _ => l.length - (intOf i).toNat)
  case atStart => exact ⟨0, by omega, rfl, 0, rfl⟩
  case round =>
    obtain ⟨k, hk, rfl, n, rfl⟩ := hrel
    by_cases hlt : k < l.length
    · obtain ⟨g, rfl, c0, c1⟩ := HP.out k hlt
      obtain ⟨g', rfl, c0', c1'⟩ := HP'.out k hlt
      obtain ⟨x, hx⟩ : ∃ x, x = (pd l k).1 := ⟨_, rfl⟩
      obtain ⟨y, hy⟩ : ∃ x, x = (pd l k).2 := ⟨_, rfl⟩
      rw [← hx] at c0 c0'
      rw [← hy] at c1 c1'
      clear hx hy
      have hne : ∀ W, Sem.run Try.prog (binOp .neq 35 (ptV (pd l k)) (ptV (pd l k))) W = .ok (.bool false) W := fun W => by rw [nePt, (eqB_iff _ _).2 rfl]; rfl
      go_wp2
      go_quiet (fail)
      go_wp2
      go_roundw
      case rel => exact ⟨k + 1, by omega, by go_num, _, rfl⟩
      case measure => simp [intOf]; omega
    · go_wp2
      go_ret
      exact ⟨rfl, n, rfl⟩
end Go.Proofs.Ytamejfeaniokfaa
