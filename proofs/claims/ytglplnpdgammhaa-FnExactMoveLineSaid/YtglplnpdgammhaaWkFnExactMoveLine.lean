/-
  MoveLine answers as its model at every argument.
  No condition: every line, every slice of lines (nil and too long ones too) and every integer.
-/
import Derived.Test.YtglplnpdgammhaaRows
import Derived.WalkKit
import Derived.ProofKit
import Derived.OpenShut
import Derived.ShutString
import Derived.Below
import Derived.Carry
import Derived.Lib.SmallJoins
import Derived.SizedLaws
import Derived.Test.YtglplnpdgammhaaLnL
namespace Go.Proofs.Ytglplnpdgammhaa.fnExactMoveLine
set_option linter.unusedSimpArgs false
set_option linter.unusedVariables false
open Go.ChangeShapes Go.WideShapes Go.ChangeAt Go.RowKit
open Go.ChangeMaps (open_string shut_string)
set_option linter.unusedVariables false
theorem walk (a0_0 : Int) (a0_1 : Int) (a0_2 : Int) (a1 : Int) (a2 : Int) (w : World) (w0_0 : (Lit.int .i64 a0_0).wf = true) (w0_1 : (Lit.int .i64 a0_1).wf = true) (w0_2 : (Lit.int .i64 a0_2).wf = true) (w1 : (Lit.int .i64 a1).wf = true) (w2 : (Lit.int .i64 a2).wf = true) :
    Calls Try.prog 9 #[.agg #[.int .i64 a0_0, .int .i64 a0_1, .int .i64 a0_2], .int .i64 a1, .int .i64 a2] w fun e w' => e = .returned (.bool true) ∧ Below w.heap.size w w' := by
  have hp0 : T3 (w.alloc (.cells #[.int .i64 a0_0, .int .i64 a0_1, .int .i64 a0_2] 23)) w.heap.size (a0_0, a0_1, a0_2) := by have := T3.new w (a0_0, a0_1, a0_2) 23; simpa using this
  have BPZ : Below w.heap.size w (w.alloc (.cells #[.int .i64 a0_0, .int .i64 a0_1, .int .i64 a0_2] 23)) := (gr1 w _).below
  have HP0 := Lib.hid hp0
  clear hp0
  have HBZ := Lib.hid BPZ
  clear BPZ
  go_enter Try.func9, Try.ntmps9
  have cx0 := HP0.out
  obtain ⟨x00, x01, x02⟩ := cx0
  have xl0 := cell_lt x00
  go_wp2_with fail
  refine (toLine_any _ _ _ _).mono ?_
  rintro e v1 ⟨rfl, g1⟩
  have b1 := g1.below
  have B1 := b1
  clear x00 x01 x02 xl0
  have cx0 := HP0.out.below B1
  obtain ⟨x00, x01, x02⟩ := cx0
  have xl0 := cell_lt x00
  go_wp2_with fail
  refine ((specMoveLine_any (a0_0, a0_1, a0_2) _ _ _).mono fun _ _ h => GivesL.b h).mono ?_
  rintro e v2 ⟨rfl, b2⟩
  have B2 := bel2 B1 b2
  clear x00 x01 x02 xl0
  have bx2 : Below v2.heap.size v2 (v2.alloc (.cells #[.int .i64 ((mvTR (a0_0, a0_1, a0_2) a1 a2).1), .int .i64 ((mvTR (a0_0, a0_1, a0_2) a1 a2).2.1), .int .i64 ((mvTR (a0_0, a0_1, a0_2) a1 a2).2.2)] 25)) := (Below.refl _ _).alloc (Nat.le_refl _) _
  have B2 := bel2 B2 bx2
  have hw0 := T3.newL v2 ((mvTR (a0_0, a0_1, a0_2) a1 a2).1) ((mvTR (a0_0, a0_1, a0_2) a1 a2).2.1) ((mvTR (a0_0, a0_1, a0_2) a1 a2).2.2)
  have cx0 := HP0.out.below B2
  obtain ⟨x00, x01, x02⟩ := cx0
  have xl0 := cell_lt x00
  go_wp2_with fail
  refine (toLine_any _ _ _ _).mono ?_
  rintro e v3 ⟨rfl, g3⟩
  have b3 := g3.below
  have B3 := bel2 B2 b3
  clear x00 x01 x02 xl0
  have hw0_3 := hw0.below b3
  have cx0 := HP0.out.below B3
  obtain ⟨x00, x01, x02⟩ := cx0
  have xl0 := cell_lt x00
  go_wp2_with fail
  refine ((implMoveLine_any (a0_0, a0_1, a0_2) _ _ (wfT_lit w0_0 w0_1) _).mono fun _ _ h => GivesL.b h).mono ?_
  rintro e v4 ⟨rfl, b4⟩
  have B4 := bel2 B3 b4
  clear x00 x01 x02 xl0
  have hw0_4 := hw0_3.below b4
  have bx4 : Below v4.heap.size v4 (v4.alloc (.cells #[.int .i64 ((mvTR (a0_0, a0_1, a0_2) a1 a2).1), .int .i64 ((mvTR (a0_0, a0_1, a0_2) a1 a2).2.1), .int .i64 ((mvTR (a0_0, a0_1, a0_2) a1 a2).2.2)] 25)) := (Below.refl _ _).alloc (Nat.le_refl _) _
  have B4 := bel2 B4 bx4
  have hw0_4 := hw0_4.below bx4
  have hg0 := T3.newL v4 ((mvTR (a0_0, a0_1, a0_2) a1 a2).1) ((mvTR (a0_0, a0_1, a0_2) a1 a2).2.1) ((mvTR (a0_0, a0_1, a0_2) a1 a2).2.2)
  have cg0 := hg0
  obtain ⟨cg00, cg01, cg02⟩ := cg0
  have cw0 := hw0_4
  obtain ⟨cw00, cw01, cw02⟩ := cw0
  have cx0 := HP0.out.below B4
  obtain ⟨x00, x01, x02⟩ := cx0
  have xl0 := cell_lt x00
  go_wp2_with fail
  refine (eqLine_same _ _ _ _).mono ?_
  rintro e v5 ⟨rfl, g5⟩
  have b5 := g5.below
  clear cg00 cg01 cg02 cw00 cw01 cw02
  have B5 := bel2 B4 b5
  clear x00 x01 x02 xl0
  have hw0_5 := hw0_4.below b5
  have hg0_5 := hg0.below b5
  go_wp2
  go_ret
  exact ⟨rfl, bel2 HBZ.out B5⟩
end Go.Proofs.Ytglplnpdgammhaa.fnExactMoveLine
