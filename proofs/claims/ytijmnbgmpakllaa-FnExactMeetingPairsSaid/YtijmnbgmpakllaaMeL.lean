/-
  Intersections in the laws: the model's sum, and what the laws' walks want.
  No condition.
-/
import Derived.Test.YtijmnbgmpakllaaMpC
import Derived.Test.YtijmnbgmpakllaaMpD
import Derived.Test.YtijmnbgmpakllaaSRay
import Derived.Test.YtijmnbgmpakllaaSlLaw
namespace Go.Proofs.Ytijmnbgmpakllaa
set_option linter.unusedSimpArgs false
set_option linter.unusedVariables false
open Go.ChangeShapes Go.WideShapes Go.ChangeAt Go.RowKit

theorem few_mp {a b : List Tm} {x y : Int} {P : VL} (h : lls P = mpR a b x y) : FewL P := by
  have hl := lls_len P
  have hm : ∀ p ∈ P, p.2 ∈ lls P := fun p hp => List.mem_map.2 ⟨p, hp, rfl⟩
  rw [h] at hl hm
  cases hq : asB a b x y
  · rw [mpR_no hq] at hl hm
    exact ⟨by rw [← hl]; simp, fun p hp => by have := hm p hp; simp at this⟩
  · obtain ⟨ha, hb, -⟩ := asB_parts hq
    rw [mpR_yes hq] at hl hm
    rw [p2L_len] at hl
    have h2 := pmN_len (a := a) (b := b) x y a.length
    have h3 := Nat.mul_le_mul (ryB_le ha) (ryB_le hb)
    refine ⟨?_, fun p hp => ?_⟩
    · rw [← hl]
      unfold pmA
      omega
    · have := hm p hp
      obtain ⟨q, -, he⟩ := List.mem_map.1 this
      rw [← he]
      simp
theorem specMeetSum_any (w : World) (B1 B2 : Nat) (v1 v2 : Value) (a b : List Tm) (x y : Int) (h1 : RyS w B1 v1 a) (h2 : RyS w B2 v2 b) : Calls Try.prog 30 #[v1, v2, .int .i64 x, .int .i64 y] w fun e w' => GivesIbM (okI (asB a b x y) (meS a b x y)) (asB a b x y) w e w' := by
  cases hl : asB a b x y
  · have HL := Lib.hid hl
    clear hl
    go_enter Try.func30, Try.ntmps30
    go_wp2_with fail
    refine (mtAsked_any _ B1 B2 _ _ a b x y h1 h2).mono ?_
    rintro e w1 ⟨rfl, b1⟩
    rw [HL.out]
    go_wp2
    go_ret2
    exact ⟨rfl, b1⟩
  · have HL := Lib.hid hl
    clear hl
    go_enter Try.func30, Try.ntmps30
    go_wp2_with fail
    refine (mtAsked_any _ B1 B2 _ _ a b x y h1 h2).mono ?_
    rintro e w1 ⟨rfl, b1⟩
    rw [HL.out]
    obtain ⟨q1, q2, q3, -, -⟩ := asB_parts HL.out
    go_wp2_with fail
    refine (mtSum_any w1 B1 B2 _ _ a b x y (FS.below h1 b1) (FS.below h2 b1) q1 q2 q3).mono ?_
    rintro e w2 ⟨rfl, b2⟩
    have hb := bel2 b1 b2
    clear q1 q2 q3 h1 h2 b1 b2
    go_wp2
    go_ret2
    exact ⟨rfl, hb⟩
end Go.Proofs.Ytijmnbgmpakllaa
