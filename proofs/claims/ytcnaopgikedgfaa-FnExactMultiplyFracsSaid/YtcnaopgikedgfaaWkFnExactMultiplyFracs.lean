/-
  MultiplyFracs answers as its model at every two pairs of integers.
  No condition: every four integers of Go's int.
-/
import Derived.Test.YtcnaopgikedgfaaRows
import Derived.WalkKit
import Derived.ProofKit
import Derived.OpenShut
import Derived.ShutString
import Derived.Below
import Derived.Carry
import Derived.Lib.SmallJoins
import Derived.Test.YtcnaopgikedgfaaFracD
import Derived.Deep.RegionHeld3
import Derived.Deep.DeepCutAuto
namespace Go.Proofs.Ytcnaopgikedgfaa.fnExactMultiplyFracs
set_option linter.unusedSimpArgs false
set_option linter.unusedVariables false
open Go.ChangeShapes Go.WideShapes Go.ChangeAt Go.RowKit
open Go.ChangeMaps (open_string shut_string)
set_option linter.unusedVariables false
theorem walk (a0_0 : Int) (a0_1 : Int) (a1_0 : Int) (a1_1 : Int) (w : World) (w0_0 : (Lit.int .i64 a0_0).wf = true) (w0_1 : (Lit.int .i64 a0_1).wf = true) (w1_0 : (Lit.int .i64 a1_0).wf = true) (w1_1 : (Lit.int .i64 a1_1).wf = true) :
    Calls Try.prog 7 #[.agg #[.int .i64 a0_0, .int .i64 a0_1], .agg #[.int .i64 a1_0, .int .i64 a1_1]] w fun e w' => e = .returned (.bool true) ∧ Below w.heap.size w w' := by
  go_enter Try.func7, Try.ntmps7
  go_upto_region 11 with fail
  go_cut [2, 3, 5, 6] (fun u v p b wx => u = .pointer (some ⟨w.heap.size, 0, none⟩) ∧ v = .pointer (some ⟨w.heap.size + 1, 0, none⟩) ∧ ∃ g, p = .pointer (some ⟨g, 0, none⟩) ∧ b = .bool (twoB a0_0 a0_1 a1_0 a1_1 && mkB (a0_0 * a1_0) (a0_1 * a1_1)) ∧ S4 wx w.heap.size a0_0 a0_1 a1_0 a1_1 ∧ F2 wx g (okF (twoB a0_0 a0_1 a1_0 a1_1) (mkN (a0_0 * a1_0) (a0_1 * a1_1))) (okF (twoB a0_0 a0_1 a1_0 a1_1) (mkD (a0_0 * a1_0) (a0_1 * a1_1))) ∧ Below w.heap.size w wx)
  case first =>
    go_region_held3 (fun w' => w'.cell? ⟨w.heap.size, 0, none⟩ = some (.int .i64 a0_0) ∧ w'.cell? ⟨w.heap.size, 1, none⟩ = some (.int .i64 a0_1) ∧ w'.cell? ⟨w.heap.size + 1, 0, none⟩ = some (.int .i64 a1_0) ∧ w'.cell? ⟨w.heap.size + 1, 1, none⟩ = some (.int .i64 a1_1)) (repeat' (first | with_reducible exact S4.new _ _ _ _ _ _ _ | with_reducible assumption | with_reducible refine S4.below ?_ (by assumption) | with_reducible refine S4.drew ?_ | with_reducible refine S4.setAt ?_ ?_ _ _ | with_reducible refine S4.setN ?_ _ (by first | omega | (simp; omega)) _ _ | with_reducible refine S4.alloc ?_ _)) (first | (go_at_call 14; refine (toFrac_any _ _ _).mono ?_; rintro e w1 ⟨rfl, rfl⟩) | (go_at_call 23; refine (specMultiplyFracs_any _ _ _ _ _).mono ?_; rintro e w1 ⟨rfl, b1⟩; have k1 := cellAt b1; have k2 := frozenAt b1))
    all_goals go_wp2_with fail
    all_goals go_meet
    all_goals
      refine ⟨rfl, rfl, _, rfl, rfl, by assumption, ?_, ?_⟩
      · first
        | with_reducible exact F2.new _ _ _
        | (with_reducible refine F2.store (F2.below (a := 0) (b := 0) ?_ b1) _ _
           repeat' (first | with_reducible refine F2.drew ?_ | with_reducible refine F2.new_ _ _ (by simp; done) | with_reducible refine F2.old ?_ _))
      · first
        | with_reducible refine bel_at ?_ ?_ b1 _ _
          · omega
          · go_grown
        | with_reducible refine Below.alloc ?_ ?_ _
          · exact bel2 (by go_grown) b1
          · have := b1.size; simp at this; omega
  case rest =>
    obtain ⟨rfl, rfl, g, rfl, rfl, hS, hF, b0⟩ := hcut
    have hz : w.heap.size + 1 < wc.heap.size := cell_lt hS.2.2.1
    go_upto_region 11 with fail
    go_cut [5, 6, 7, 8] (fun p b q c wx => p = .pointer (some ⟨g, 0, none⟩) ∧ b = .bool (twoB a0_0 a0_1 a1_0 a1_1 && mkB (a0_0 * a1_0) (a0_1 * a1_1)) ∧ ∃ h, q = .pointer (some ⟨h, 0, none⟩) ∧ c = .bool (twoB a0_0 a0_1 a1_0 a1_1 && mkB (a0_0 * a1_0) (a0_1 * a1_1)) ∧ F2 wx h (okF (twoB a0_0 a0_1 a1_0 a1_1) (mkN (a0_0 * a1_0) (a0_1 * a1_1))) (okF (twoB a0_0 a0_1 a1_0 a1_1) (mkD (a0_0 * a1_0) (a0_1 * a1_1))) ∧ Below wc.heap.size wc wx)
    case first =>
      go_region_held3 (fun w' => w'.cell? ⟨w.heap.size, 0, none⟩ = some (.int .i64 a0_0) ∧ w'.cell? ⟨w.heap.size, 1, none⟩ = some (.int .i64 a0_1) ∧ w'.cell? ⟨w.heap.size + 1, 0, none⟩ = some (.int .i64 a1_0) ∧ w'.cell? ⟨w.heap.size + 1, 1, none⟩ = some (.int .i64 a1_1)) (repeat' (first | with_reducible exact S4.new _ _ _ _ _ _ _ | with_reducible assumption | with_reducible refine S4.below ?_ (by assumption) | with_reducible refine S4.drew ?_ | with_reducible refine S4.setAt ?_ ?_ _ _ | with_reducible refine S4.setN ?_ _ (by first | omega | (simp; omega)) _ _ | with_reducible refine S4.alloc ?_ _)) (first | (go_at_call 14; refine (toFrac_any _ _ _).mono ?_; rintro e w1 ⟨rfl, rfl⟩) | (go_at_call 24; refine (implMultiplyFracs_any _ _ _ _ _).mono ?_; rintro e w1 ⟨rfl, b1⟩; have k1 := cellAt b1; have k2 := frozenAt b1))
      all_goals go_wp2_with fail
      all_goals go_meet
      all_goals
        refine ⟨rfl, rfl, _, rfl, rfl, ?_, ?_⟩
        · first
          | with_reducible exact F2.new _ _ _
          | (with_reducible refine F2.store (F2.below (a := 0) (b := 0) ?_ b1) _ _
             repeat' (first | with_reducible refine F2.drew ?_ | with_reducible refine F2.new_ _ _ (by simp; done) | with_reducible refine F2.old ?_ _))
        · first
          | with_reducible refine bel_at ?_ ?_ b1 _ _
            · omega
            · go_grown
          | with_reducible refine Below.alloc ?_ ?_ _
            · exact bel2 (by go_grown) b1
            · have := b1.size; simp at this; omega
    case rest =>
      obtain ⟨rfl, rfl, h, rfl, rfl, ⟨c0, c1, -, -⟩, b1⟩ := hcut
      obtain ⟨c2, c3, -, -⟩ := hF.below b1
      go_wp2_with fail
      refine (eqFrac_same _ _ _).mono ?_
      rintro e w3 ⟨rfl, b3⟩
      go_wp2_with fail
      go_ret
      exact ⟨rfl, bel2 (bel2 b0 b1) b3⟩
end Go.Proofs.Ytcnaopgikedgfaa.fnExactMultiplyFracs
