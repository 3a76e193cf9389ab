/-
  IsPoint answers as its model at every point.
  No condition: every two integers of Go's int.
-/
import Derived.Test.YtmkijfkkfhhjjaaRows
import Derived.WalkKit
import Derived.ProofKit
import Derived.OpenShut
import Derived.ShutString
import Derived.Below
import Derived.Carry
import Derived.Lib.SmallJoins
import Derived.SizedLaws
import Derived.Test.YtmkijfkkfhhjjaaPgLe
namespace Go.Proofs.Ytmkijfkkfhhjjaa.fnExactIsPoint
set_option linter.unusedSimpArgs false
set_option linter.unusedVariables false
open Go.ChangeShapes Go.WideShapes Go.ChangeAt Go.RowKit
open Go.ChangeMaps (open_string shut_string)
set_option linter.unusedVariables false
theorem walk (a0_0 : Int) (a0_1 : Int) (w : World) (w0_0 : (Lit.int .i64 a0_0).wf = true) (w0_1 : (Lit.int .i64 a0_1).wf = true) :
    Calls Try.prog 3 #[.agg #[.int .i64 a0_0, .int .i64 a0_1]] w fun e w' => e = .returned (.bool true) ∧ Below w.heap.size w w' := by
  have hX := P2.new w (a0_0, a0_1) 23
  have hbX := (Below.refl _ w).alloc (Nat.le_refl _) (.cells #[.int .i64 a0_0, .int .i64 a0_1] 23)
  have HPX := Lib.hid hX
  have HBX := Lib.hid hbX
  have HS := Lib.hid (fun (W : World) => specIsPoint_any (a0_0, a0_1) W)
  have HI := Lib.hid (fun (W : World) => implIsPoint_any (a0_0, a0_1) W)
  obtain ⟨c0, c1⟩ := hX
  clear hbX
  go_enter Try.func3, Try.ntmps3
  go_wp2_with fail
  refine (toPoint_any _ _ _).mono ?_
  rintro e w1 ⟨rfl, g1⟩
  have B1 := g1.below
  go_wp2_with fail
  refine (HS.out _).mono ?_
  rintro e w2 ⟨rfl, g2⟩
  have B2 := bel2 B1 g2.below
  obtain ⟨d0, d1⟩ := P2.below HPX.out B2
  go_wp2_with fail
  refine (toPoint_any _ _ _).mono ?_
  rintro e w3 ⟨rfl, g3⟩
  have B3 := bel2 B2 g3.below
  go_wp2_with fail
  refine (HI.out _).mono ?_
  rintro e w4 ⟨rfl, g4⟩
  go_wp2
  go_ret
  exact ⟨rfl, bel2 HBX.out (bel2 B3 g4.below)⟩
end Go.Proofs.Ytmkijfkkfhhjjaa.fnExactIsPoint
