/-
  Values at fractions in the model: what each call returns.
  Conditions: the slice reads as the list that is named, a polynomial where it says so.
-/
import Derived.Test.YtklcildhfcomnaaGreatDoorValue
namespace Go.Proofs.YtklcildhfcomnaaGreatDoor
set_option linter.unusedSimpArgs false
set_option linter.unusedVariables false
open Go.ChangeShapes Go.WideShapes Go.ChangeAt Go.RowKit

set_option maxHeartbeats 1000000 in
theorem frAdd_lim (a b c d : Int) (w : World) (ha : Lim a) (hb : Lim b) (hc : Lim c) (hd : Lim d) : Calls Tryz.prog 51 #[fracV a b, fracV c d] w fun x w' => GivesF (mkN (a * d + c * b) (b * d)) (mkD (a * d + c * b) (b * d)) (mkB (a * d + c * b) (b * d)) w x w' := by
  obtain ⟨p1, p2⟩ := mul9 ha hd
  obtain ⟨q1, q2⟩ := mul9 hc hb
  obtain ⟨r1, r2⟩ := mul9 hb hd
  obtain ⟨s1, s2⟩ := mul9 ha hc
  obtain ⟨t1, t2⟩ := mul9 hb hc
  clear ha hb hc hd
  go_enter Tryz.func51, Tryz.ntmps51
  go_wp2_with fail
  refine (frMake_any _ _ _ ?_ ?_).mono ?_
  · unfold wide; omega
  · unfold wide; omega
  rintro x w1 ⟨rfl, b1⟩
  have C0 := (box3 w a b c d).2.2.below b1
  obtain ⟨c0, c1, f0, f1⟩ := C0
  go_wp2_with fail
  refine bodyPost_ret ((F2.store ⟨c0, c1, f0, f1⟩ _ _).results rfl rfl rfl) rfl ?_
  exact ⟨rfl, bel_at (by omega) (by go_grown) b1 _ _⟩
theorem mk_lim (n d : Int) : Lim (mkN n d) ∧ Lim (mkD n d) := by
  cases h : mkB n d
  · obtain ⟨e1, e2⟩ := mk_none h; rw [e1, e2]; unfold Lim; omega
  · exact frB_lim (mk_parts h).2.1
theorem cmp_neg {a b : Int} (h : a < b) : cmpI a b < 0 := by unfold cmpI; rw [if_pos h]; omega
theorem cmp_nneg {a b : Int} (h : ¬ a < b) : ¬ cmpI a b < 0 := by unfold cmpI; rw [if_neg h]; split <;> omega
end Go.Proofs.YtklcildhfcomnaaGreatDoor
