/-
  PrimitiveRay answers as its model at every argument.
  No condition: every slice of rays (nil and too long ones too) and every integer.
-/
import Derived.Test.YthegkifhbgopoaaRows
import Derived.WalkKit
import Derived.ProofKit
import Derived.OpenShut
import Derived.ShutString
import Derived.Below
import Derived.Carry
import Derived.Lib.SmallJoins
import Derived.SizedLaws
import Derived.Test.YthegkifhbgopoaaStL
namespace Go.Proofs.Ythegkifhbgopoaa.fnExactPrimitiveRay
set_option linter.unusedSimpArgs false
set_option linter.unusedVariables false
open Go.ChangeShapes Go.WideShapes Go.ChangeAt Go.RowKit
open Go.ChangeMaps (open_string shut_string)
set_option linter.unusedVariables false
theorem walk (a0 : Int) (a1 : Int) (w : World) (w0 : (Lit.int .i64 a0).wf = true) (w1 : (Lit.int .i64 a1).wf = true) :
    Calls Try.prog 4 #[.int .i64 a0, .int .i64 a1] w fun e w' => e = .returned (.bool true) ∧ Below w.heap.size w w' := by
  go_enter Try.func4, Try.ntmps4
  go_wp2_with fail
  refine (specPrimitiveRay_any _ _ _).mono ?_
  rintro e v1 ⟨rfl, b1⟩
  have B1 := b1
  have bx1 : Below v1.heap.size v1 (v1.alloc (.cells #[.int .i64 ((prR a0 a1).1), .int .i64 ((prR a0 a1).2.1), .int .i64 ((prR a0 a1).2.2)] 39)) := (Below.refl _ _).alloc (Nat.le_refl _) _
  have B1 := bel2 B1 bx1
  have hw0 := T3.newR v1 ((prR a0 a1).1) ((prR a0 a1).2.1) ((prR a0 a1).2.2)
  go_wp2_with fail
  refine (implPrimitiveRay_any _ _ _).mono ?_
  rintro e v2 ⟨rfl, b2⟩
  have B2 := bel2 B1 b2
  have hw0_2 := hw0.below b2
  have bx2 : Below v2.heap.size v2 (v2.alloc (.cells #[.int .i64 ((prR a0 a1).1), .int .i64 ((prR a0 a1).2.1), .int .i64 ((prR a0 a1).2.2)] 39)) := (Below.refl _ _).alloc (Nat.le_refl _) _
  have B2 := bel2 B2 bx2
  have hw0_2 := hw0_2.below bx2
  have hg0 := T3.newR v2 ((prR a0 a1).1) ((prR a0 a1).2.1) ((prR a0 a1).2.2)
  have cg0 := hg0
  obtain ⟨cg00, cg01, cg02⟩ := cg0
  have cw0 := hw0_2
  obtain ⟨cw00, cw01, cw02⟩ := cw0
  go_wp2_with fail
  refine (eqRay_same _ _ _ _).mono ?_
  rintro e v3 ⟨rfl, g3⟩
  have b3 := g3.below
  clear cg00 cg01 cg02 cw00 cw01 cw02
  have B3 := bel2 B2 b3
  have hw0_3 := hw0_2.below b3
  have hg0_3 := hg0.below b3
  go_wp2
  go_ret
  exact ⟨rfl, B3⟩
end Go.Proofs.Ythegkifhbgopoaa.fnExactPrimitiveRay
