/-
  PairMultiplicity answers as its model at every two rays.
  No condition: every two of them.
-/
import Derived.Test.YtijmnbgmpakllaaRows
import Derived.WalkKit
import Derived.ProofKit
import Derived.OpenShut
import Derived.ShutString
import Derived.Below
import Derived.Carry
import Derived.Lib.SmallJoins
import Derived.SizedLaws
import Derived.Test.YtijmnbgmpakllaaMeL
namespace Go.Proofs.Ytijmnbgmpakllaa.fnExactPairMultiplicity
set_option linter.unusedSimpArgs false
set_option linter.unusedVariables false
open Go.ChangeShapes Go.WideShapes Go.ChangeAt Go.RowKit
open Go.ChangeMaps (open_string shut_string)
set_option linter.unusedVariables false
theorem walk (a0_0 : Int) (a0_1 : Int) (a0_2 : Int) (a1_0 : Int) (a1_1 : Int) (a1_2 : Int) (w : World) (w0_0 : (Lit.int .i64 a0_0).wf = true) (w0_1 : (Lit.int .i64 a0_1).wf = true) (w0_2 : (Lit.int .i64 a0_2).wf = true) (w1_0 : (Lit.int .i64 a1_0).wf = true) (w1_1 : (Lit.int .i64 a1_1).wf = true) (w1_2 : (Lit.int .i64 a1_2).wf = true) :
    Calls Try.prog 3 #[.agg #[.int .i64 a0_0, .int .i64 a0_1, .int .i64 a0_2], .agg #[.int .i64 a1_0, .int .i64 a1_1, .int .i64 a1_2]] w fun e w' => e = .returned (.bool true) ∧ Below w.heap.size w w' := by
  have HT0 := Lib.hid (fun W => show Calls Try.prog 15 #[tmV (a0_0, a0_1, a0_2)] W fun e w' => e = .returned (tmV (a0_0, a0_1, a0_2)) ∧ Gr W w' from toRay_any _ _ _ W)
  have HT1 := Lib.hid (fun W => show Calls Try.prog 15 #[tmV (a1_0, a1_1, a1_2)] W fun e w' => e = .returned (tmV (a1_0, a1_1, a1_2)) ∧ Gr W w' from toRay_any _ _ _ W)
  have HS := Lib.hid (fun W => specPairMultiplicity_any (a0_0, a0_1, a0_2) (a1_0, a1_1, a1_2) W)
  have HI := Lib.hid (fun W => implPairMultiplicity_any (a0_0, a0_1, a0_2) (a1_0, a1_1, a1_2) W)
  generalize pmV (a0_0, a0_1, a0_2) (a1_0, a1_1, a1_2) = r0 at HS HI
  generalize pmB (a0_0, a0_1, a0_2) (a1_0, a1_1, a1_2) = r1 at HS HI
  obtain ⟨W0, hW0⟩ : ∃ W0, W0 = ((w.alloc (.cells #[.int .i64 a0_0, .int .i64 a0_1, .int .i64 a0_2] 23)).alloc (.cells #[.int .i64 a1_0, .int .i64 a1_1, .int .i64 a1_2] 23)) := ⟨_, rfl⟩
  have h0 : T3 W0 w.heap.size (a0_0, a0_1, a0_2) := by rw [hW0]; exact (T3.new w (a0_0, a0_1, a0_2) 23).below (gr1 _ _).below
  have h1 : T3 W0 (w.heap.size + 1) (a1_0, a1_1, a1_2) := by
    have := T3.new (w.alloc (.cells #[.int .i64 a0_0, .int .i64 a0_1, .int .i64 a0_2] 23)) (a1_0, a1_1, a1_2) 23
    rw [World.size_alloc] at this
    rw [hW0]
    exact this
  have HB := Lib.hid (show Gr w W0 by rw [hW0]; exact gr2 _ _ _)
  obtain ⟨x0, x1, x2⟩ := T3.grown h0
  obtain ⟨y0, y1, y2⟩ := T3.grown h1
  have H0 := Lib.hid h0
  have H1 := Lib.hid h1
  clear h0 h1
  go_enter Try.func3, Try.ntmps3
  go_upto_region 1 with fail
  rw [← hW0]
  clear hW0
  go_wp2
  refine wp_region_quiet_grown (by kernel_rfl) (by kernel_rfl) ?_
  repeat (go_big_quiet_step ((first | (go_at_call 15; first | (with_reducible exact Calls.grown_of (HT0.out _)) | (with_reducible exact Calls.grown_of (HT1.out _))) | (with_reducible exact Calls.grown_of (HS.out _)))))
  refine wpQuiet_nil ?_
  intro _ hw'
  obtain ⟨⟨nq, osq⟩, hw''⟩ := hw'
  subst hw''
  obtain ⟨W1, hW1⟩ : ∃ W1, W1 = Go.Sort.grow (W0.drewN nq) osq := ⟨_, rfl⟩
  rw [← hW1]
  have HG1 := Lib.hid (HB.out.trans ⟨nq, osq, hW1⟩)
  have h0 := H0.out.below (Gr.below ⟨nq, osq, hW1⟩)
  have h1 := H1.out.below (Gr.below ⟨nq, osq, hW1⟩)
  clear hW1 x0 x1 x2 y0 y1 y2
  obtain ⟨x0, x1, x2⟩ := T3.grown h0
  obtain ⟨y0, y1, y2⟩ := T3.grown h1
  clear h0 h1
  go_wp2_with fail
  refine wp_region_quiet_grown (by kernel_rfl) (by kernel_rfl) ?_
  repeat (go_big_quiet_step ((first | (go_at_call 15; first | (with_reducible exact Calls.grown_of (HT0.out _)) | (with_reducible exact Calls.grown_of (HT1.out _))) | (with_reducible exact Calls.grown_of (HI.out _)))))
  refine wpQuiet_nil ?_
  intro _ hw'
  obtain ⟨⟨nq, osq⟩, hw''⟩ := hw'
  subst hw''
  go_wp2
  go_ret
  exact ⟨rfl, (HG1.out.trans ⟨nq, osq, rfl⟩).below⟩
end Go.Proofs.Ytijmnbgmpakllaa.fnExactPairMultiplicity
