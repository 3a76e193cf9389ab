/-
  TropPower answers as its model, whatever the two integers.
  No condition but that the table of the two neutral numbers holds what the program's text lays there (the card ties it).
-/
import Derived.Test.YtoeodkkbaieifaaDoorRows
import Derived.WalkKit
import Derived.ProofKit
import Derived.OpenShut
import Derived.ShutString
import Derived.Test.YtoeodkkbaieifaaDoorTrop
import Derived.Below
import Derived.Carry
import Derived.LaidMore
import Derived.Stop.Joined
import Derived.OpenVars
import Derived.Lib.LaidTab
import Derived.MakeChecks
namespace Go.Proofs.YtoeodkkbaieifaaDoor.fnExactTropPower
open Go.ChangeShapes Go.WideShapes Go.ChangeAt Go.RowKit
open Go.ChangeMaps (open_string shut_string)
set_option linter.unusedVariables false      -- a walk need not use every 'w<i>' (that an integer argument fits its kind)



/-- What the condition gives: the table's two cells. -/
theorem laid_of {W : World} (h : laidMetH Tryd.prog Rows.fnExactTropPowerRow.laid W) : Neut W := neut_of_laid h

theorem walk (a0 : Int) (a1 : Int) (w0 : (Lit.int .i64 a0).wf = true) (w1 : (Lit.int .i64 a1).wf = true) (w : World) (hN : Neut w) :
    Calls Tryd.prog 3 #[.int .i64 a0, .int .i64 a1] w fun e w' => e = .returned (.bool true) ∧ Below w.heap.size w w' := by
  go_enter Tryd.func3, Tryd.ntmps3
  go_wp2_with fail
  refine (specTropPower_any _ _ _).mono ?_
  rintro e w' ⟨rfl, rfl⟩
  go_wp2_with fail
  refine (implTropPower_any _ _ _ hN).mono ?_
  rintro e w' ⟨rfl, rfl⟩
  go_wp2
  go_ret
  exact ⟨rfl, Below.refl _ _⟩
end Go.Proofs.YtoeodkkbaieifaaDoor.fnExactTropPower
