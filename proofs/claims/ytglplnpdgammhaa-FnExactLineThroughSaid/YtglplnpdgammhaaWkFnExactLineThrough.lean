/-
  LineThrough answers as its model at every argument.
  No condition: every line, every slice of lines (nil and too long ones too) and every integer.
-/
import Derived.Test.YtglplnpdgammhaaRows
import Derived.WalkKit
import Derived.ProofKit
import Derived.OpenShut
import Derived.ShutString
import Derived.Below
import Derived.Carry
import Derived.Lib.SmallJoins
import Derived.SizedLaws
import Derived.Test.YtglplnpdgammhaaLnL
namespace Go.Proofs.Ytglplnpdgammhaa.fnExactLineThrough
set_option linter.unusedSimpArgs false
set_option linter.unusedVariables false
open Go.ChangeShapes Go.WideShapes Go.ChangeAt Go.RowKit
open Go.ChangeMaps (open_string shut_string)
set_option linter.unusedVariables false
theorem walk (a0 : Int) (a1 : Int) (a2 : Int) (a3 : Int) (w : World) (w0 : (Lit.int .i64 a0).wf = true) (w1 : (Lit.int .i64 a1).wf = true) (w2 : (Lit.int .i64 a2).wf = true) (w3 : (Lit.int .i64 a3).wf = true) :
    Calls Try.prog 7 #[.int .i64 a0, .int .i64 a1, .int .i64 a2, .int .i64 a3] w fun e w' => e = .returned (.bool true) ∧ Below w.heap.size w w' := by
  go_enter Try.func7, Try.ntmps7
  go_wp2_with fail
  refine ((specLineThrough_any _ _ _ _ _).mono fun _ _ h => GivesL.b h).mono ?_
  rintro e v1 ⟨rfl, b1⟩
  have B1 := b1
  have bx1 : Below v1.heap.size v1 (v1.alloc (.cells #[.int .i64 ((thR a0 a1 a2 a3).1), .int .i64 ((thR a0 a1 a2 a3).2.1), .int .i64 ((thR a0 a1 a2 a3).2.2)] 25)) := (Below.refl _ _).alloc (Nat.le_refl _) _
  have B1 := bel2 B1 bx1
  have hw0 := T3.newL v1 ((thR a0 a1 a2 a3).1) ((thR a0 a1 a2 a3).2.1) ((thR a0 a1 a2 a3).2.2)
  go_wp2_with fail
  refine ((implLineThrough_any _ _ _ _ _).mono fun _ _ h => GivesL.b h).mono ?_
  rintro e v2 ⟨rfl, b2⟩
  have B2 := bel2 B1 b2
  have hw0_2 := hw0.below b2
  have bx2 : Below v2.heap.size v2 (v2.alloc (.cells #[.int .i64 ((thR a0 a1 a2 a3).1), .int .i64 ((thR a0 a1 a2 a3).2.1), .int .i64 ((thR a0 a1 a2 a3).2.2)] 25)) := (Below.refl _ _).alloc (Nat.le_refl _) _
  have B2 := bel2 B2 bx2
  have hw0_2 := hw0_2.below bx2
  have hg0 := T3.newL v2 ((thR a0 a1 a2 a3).1) ((thR a0 a1 a2 a3).2.1) ((thR a0 a1 a2 a3).2.2)
  have cg0 := hg0
  obtain ⟨cg00, cg01, cg02⟩ := cg0
  have cw0 := hw0_2
  obtain ⟨cw00, cw01, cw02⟩ := cw0
  go_wp2_with fail
  refine (eqLine_same _ _ _ _).mono ?_
  rintro e v3 ⟨rfl, g3⟩
  have b3 := g3.below
  clear cg00 cg01 cg02 cw00 cw01 cw02
  have B3 := bel2 B2 b3
  have hw0_3 := hw0_2.below b3
  have hg0_3 := hg0.below b3
  go_wp2
  go_ret
  exact ⟨rfl, B3⟩
end Go.Proofs.Ytglplnpdgammhaa.fnExactLineThrough
