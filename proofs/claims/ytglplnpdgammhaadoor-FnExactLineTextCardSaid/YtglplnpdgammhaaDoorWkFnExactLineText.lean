/-
  LineText answers as its model at every line.
  No condition: every line and every text; what the program and the library hold from their start reads as laid.
-/
import Derived.Test.YtglplnpdgammhaaDoorRows
import Derived.WalkKit
import Derived.ProofKit
import Derived.OpenShut
import Derived.ShutString
import Derived.Below
import Derived.Carry
import Derived.Lib.SmallJoins
import Derived.SizedLaws
import Derived.MakeChecks
import Derived.OpenVars
import Derived.LaidMore
import Derived.Stop.Joined
import Derived.Lib.LaidTab
import Derived.Test.YtglplnpdgammhaaDoorLnM
namespace Go.Proofs.YtglplnpdgammhaaDoor.fnExactLineText
set_option linter.unusedSimpArgs false
set_option linter.unusedVariables false
open Go.ChangeShapes Go.WideShapes Go.ChangeAt Go.RowKit
open Go.ChangeMaps (open_string shut_string)
set_option linter.unusedVariables false
/-- What the condition gives: the tables' cells. -/
theorem laid_of {W : World} (h : laidMetH Tryd.prog Rows.fnExactLineTextRow.laid W) : Neut W ∧ Names W ∧ Pows W := by
  rw [MakeChecks.laidMetH_plain _ _ _ (by kernel_rfl)] at h
  have h1 := laidMet.tail h
  have h2 := laidMet.tail h1
  have h3 := laidMet.tail h2
  have h4 := laidMet.tail h3
  exact ⟨neut_of_head h3, names_of_laid h4, pows_of_laid h2⟩

theorem walk (a0_0 : Int) (a0_1 : Int) (a0_2 : Int) (w : World) (w0_0 : (Lit.int .i64 a0_0).wf = true) (w0_1 : (Lit.int .i64 a0_1).wf = true) (w0_2 : (Lit.int .i64 a0_2).wf = true) (hN : Neut w ∧ Names w ∧ Pows w) :
    Calls Tryd.prog 3 #[.agg #[.int .i64 a0_0, .int .i64 a0_1, .int .i64 a0_2]] w fun e w' => e = .returned (.bool true) ∧ Below w.heap.size w w' := by
  obtain ⟨hN0, hN1, hN2⟩ := hN
  have N0 := Lib.hid hN0
  have N1 := Lib.hid hN1
  have N2 := Lib.hid hN2
  clear hN0 hN1 hN2
  have hp0 : T3 (w.alloc (.cells #[.int .i64 a0_0, .int .i64 a0_1, .int .i64 a0_2] 23)) w.heap.size (a0_0, a0_1, a0_2) := by have := T3.new w (a0_0, a0_1, a0_2) 23; simpa using this
  have BPZ : Below w.heap.size w (w.alloc (.cells #[.int .i64 a0_0, .int .i64 a0_1, .int .i64 a0_2] 23)) := (gr1 w _).below
  have HP0 := Lib.hid hp0
  clear hp0
  have HBZ := Lib.hid BPZ
  clear BPZ
  go_enter Tryd.func3, Tryd.ntmps3
  have cx0 := HP0.out
  obtain ⟨x00, x01, x02⟩ := cx0
  have xl0 := cell_lt x00
  go_wp2_with fail
  refine (toLine_any _ _ _ _).mono ?_
  rintro e v1 ⟨rfl, g1⟩
  have b1 := g1.below
  have B1 := b1
  clear x00 x01 x02 xl0
  have cx0 := HP0.out.below B1
  obtain ⟨x00, x01, x02⟩ := cx0
  have xl0 := cell_lt x00
  go_wp2_with fail
  refine (specLineText_any (a0_0, a0_1, a0_2) _).mono ?_
  rintro e v2 ⟨rfl, b2⟩
  have B2 := bel2 B1 b2
  clear x00 x01 x02 xl0
  have cx0 := HP0.out.below B2
  obtain ⟨x00, x01, x02⟩ := cx0
  have xl0 := cell_lt x00
  go_wp2_with fail
  refine (toLine_any _ _ _ _).mono ?_
  rintro e v3 ⟨rfl, g3⟩
  have b3 := g3.below
  have B3 := bel2 B2 b3
  clear x00 x01 x02 xl0
  have cx0 := HP0.out.below B3
  obtain ⟨x00, x01, x02⟩ := cx0
  have xl0 := cell_lt x00
  go_wp2_with fail
  refine (implLineText_any (a0_0, a0_1, a0_2) (wfT_lit w0_0 w0_1) _ (N0.out.below (bel2 HBZ.out B3)) (N1.out.below (bel2 HBZ.out B3)) (N2.out.below (bel2 HBZ.out B3))).mono ?_
  rintro e v4 ⟨rfl, b4⟩
  have B4 := bel2 B3 b4
  clear x00 x01 x02 xl0
  go_wp2
  go_ret
  exact ⟨rfl, bel2 HBZ.out B4⟩
end Go.Proofs.YtglplnpdgammhaaDoor.fnExactLineText
