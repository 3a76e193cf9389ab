/-
  TermsOn answers as its model at every argument, and answers in memory of its own.
  No condition: every line, every slice of lines (nil and too long ones too) and every integer.
-/
import Derived.Test.YtglplnpdgammhaaRows
import Derived.WalkKit
import Derived.ProofKit
import Derived.OpenShut
import Derived.ShutString
import Derived.Below
import Derived.Carry
import Derived.Lib.SmallJoins
import Derived.SizedLaws
import Derived.Test.YtglplnpdgammhaaLnL
namespace Go.Proofs.Ytglplnpdgammhaa.fnExactTermsOn
set_option linter.unusedSimpArgs false
set_option linter.unusedVariables false
open Go.ChangeShapes Go.WideShapes Go.ChangeAt Go.RowKit
open Go.ChangeMaps (open_string shut_string)
set_option linter.unusedVariables false
theorem walk (a0_0 : Int) (a0_1 : Int) (a0_2 : Int) (a1 : Int) (a2 : Int) (w : World) (w0_0 : (Lit.int .i64 a0_0).wf = true) (w0_1 : (Lit.int .i64 a0_1).wf = true) (w0_2 : (Lit.int .i64 a0_2).wf = true) (w1 : (Lit.int .i64 a1).wf = true) (w2 : (Lit.int .i64 a2).wf = true) :
    Calls Try.prog 4 #[.agg #[.int .i64 a0_0, .int .i64 a0_1, .int .i64 a0_2], .int .i64 a1, .int .i64 a2] w fun e w' => e = .returned (.bool true) ∧ Below w.heap.size w w' := by
  have hp0 : T3 (w.alloc (.cells #[.int .i64 a0_0, .int .i64 a0_1, .int .i64 a0_2] 23)) w.heap.size (a0_0, a0_1, a0_2) := by have := T3.new w (a0_0, a0_1, a0_2) 23; simpa using this
  have BPZ : Below w.heap.size w (w.alloc (.cells #[.int .i64 a0_0, .int .i64 a0_1, .int .i64 a0_2] 23)) := (gr1 w _).below
  have HP0 := Lib.hid hp0
  clear hp0
  have HBZ := Lib.hid BPZ
  clear BPZ
  go_enter Try.func4, Try.ntmps4
  have cx0 := HP0.out
  obtain ⟨x00, x01, x02⟩ := cx0
  have xl0 := cell_lt x00
  go_wp2_with fail
  refine (toLine_any _ _ _ _).mono ?_
  rintro e v1 ⟨rfl, g1⟩
  have b1 := g1.below
  have B1 := b1
  clear x00 x01 x02 xl0
  have cx0 := HP0.out.below B1
  obtain ⟨x00, x01, x02⟩ := cx0
  have xl0 := cell_lt x00
  go_wp2_with fail
  refine (specTermsOn_any (a0_0, a0_1, a0_2) _ _ _).mono ?_
  rintro e v2 ⟨r2, rfl, hw0, b2⟩
  have B2 := bel2 B1 b2
  clear x00 x01 x02 xl0
  have iw0 := hw0.in_
  have cx0 := HP0.out.below B2
  obtain ⟨x00, x01, x02⟩ := cx0
  have xl0 := cell_lt x00
  go_wp2_with fail
  refine (toLine_any _ _ _ _).mono ?_
  rintro e v3 ⟨rfl, g3⟩
  have b3 := g3.below
  have B3 := bel2 B2 b3
  clear x00 x01 x02 xl0
  have hw0_3 := hw0.below b3
  have cx0 := HP0.out.below B3
  obtain ⟨x00, x01, x02⟩ := cx0
  have xl0 := cell_lt x00
  go_wp2_with fail
  refine (implTermsOn_any (a0_0, a0_1, a0_2) _ _ (wfT_lit w0_0 w0_1) _).mono ?_
  rintro e v4 ⟨r4, rfl, hg0, b4⟩
  have B4 := bel2 B3 b4
  clear x00 x01 x02 xl0
  have hw0_4 := hw0_3.below b4
  have ig0 := hg0.in_
  have cx0 := HP0.out.below B4
  obtain ⟨x00, x01, x02⟩ := cx0
  have xl0 := cell_lt x00
  go_wp2_with fail
  refine (eqIntS_any _ _ _ _ _ _ _ hg0 hw0_4).mono ?_
  rintro e w' ⟨rfl, n1, rfl⟩
  have D1 := belN B4 n1
  have hw0_d1 := hw0_4.drewN n1
  have hg0_d1 := hg0.drewN n1
  have cx0 := HP0.out.below D1
  obtain ⟨x00, x01, x02⟩ := cx0
  have xl0 := cell_lt x00
  go_wp2_with fail
  refine (markIntS_any _ _ _ _ _ hg0_d1 (by omega) (Nat.le_trans (lnTR_le _ _ _) (by omega))).mono ?_
  rintro e v5 ⟨rfl, hg0_m1, gr1, z1⟩
  have Z1 := Lib.hid z1
  clear z1
  have hw0_m1 := hw0_d1.marked iw0 ig0 (.inl (b3.size)) gr1
  have M1 := belM D1 ig0 B3.size gr1
  clear gr1
  have cx0 := HP0.out.below M1
  obtain ⟨x00, x01, x02⟩ := cx0
  have xl0 := cell_lt x00
  go_wp2_with fail
  refine (heldIntS_any _ _ _ _ 1 hg0_m1 (by omega) (Nat.le_trans (lnTR_le _ _ _) (by omega))).mono ?_
  rintro e w' ⟨rfl, rfl⟩
  have cx0 := HP0.out.below M1
  obtain ⟨x00, x01, x02⟩ := cx0
  have xl0 := cell_lt x00
  go_wp2_with fail
  refine (toLine_any _ _ _ _).mono ?_
  rintro e v6 ⟨rfl, g6⟩
  have b6 := g6.below
  have B6 := bel2 M1 b6
  clear x00 x01 x02 xl0
  have hw0_6 := hw0_m1.below b6
  have hg0_6 := hg0_m1.below b6
  have cx0 := HP0.out.below B6
  obtain ⟨x00, x01, x02⟩ := cx0
  have xl0 := cell_lt x00
  go_wp2_with fail
  refine (implTermsOn_any (a0_0, a0_1, a0_2) _ _ (wfT_lit w0_0 w0_1) _).mono ?_
  rintro e v7 ⟨r7, rfl, hh0, b7⟩
  have B7 := bel2 B6 b7
  clear x00 x01 x02 xl0
  have hw0_7 := hw0_6.below b7
  have hg0_7 := hg0_6.below b7
  have ih0 := hh0.in_
  have cx0 := HP0.out.below B7
  obtain ⟨x00, x01, x02⟩ := cx0
  have xl0 := cell_lt x00
  go_wp2_with fail
  refine (eqIntS_any _ _ _ _ _ _ _ hh0 hw0_7).mono ?_
  rintro e w' ⟨rfl, n2, rfl⟩
  have D2 := belN B7 n2
  have hw0_d2 := hw0_7.drewN n2
  have hg0_d2 := hg0_7.drewN n2
  have hh0_d2 := hh0.drewN n2
  have cx0 := HP0.out.below D2
  obtain ⟨x00, x01, x02⟩ := cx0
  have xl0 := cell_lt x00
  go_wp2_with fail
  refine (heldIntS_any _ _ _ _ 1 hg0_d2 (by omega) (Nat.le_trans (lnTR_le _ _ _) (by omega))).mono ?_
  rintro e w' ⟨rfl, rfl⟩
  go_wp2
  go_ret
  exact ⟨rfl, bel2 HBZ.out D2⟩
end Go.Proofs.Ytglplnpdgammhaa.fnExactTermsOn
