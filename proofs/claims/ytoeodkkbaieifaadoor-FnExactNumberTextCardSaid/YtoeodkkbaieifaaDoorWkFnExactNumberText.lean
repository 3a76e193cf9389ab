/-
  NumberText answers as its model, whatever the integer.
  No condition but that the tables of the program and of Go's library hold what the program's text lays there (the card ties them).
-/
import Derived.Test.YtoeodkkbaieifaaDoorRows
import Derived.WalkKit
import Derived.ProofKit
import Derived.OpenShut
import Derived.ShutString
import Derived.Test.YtoeodkkbaieifaaDoorTextB
import Derived.Below
import Derived.Carry
import Derived.LaidMore
import Derived.Stop.Joined
import Derived.OpenVars
import Derived.Lib.LaidTab
import Derived.MakeChecks
namespace Go.Proofs.YtoeodkkbaieifaaDoor.fnExactNumberText
open Go.ChangeShapes Go.WideShapes Go.ChangeAt Go.RowKit
open Go.ChangeMaps (open_string shut_string)
set_option linter.unusedVariables false      -- a walk need not use every 'w<i>' (that an integer argument fits its kind)



/-- What the condition gives: the tables' cells. -/
theorem laid_of {W : World} (h : laidMetH Tryd.prog Rows.fnExactNumberTextRow.laid W) : Neut W ∧ Names W ∧ Pows W := by
  rw [MakeChecks.laidMetH_plain _ _ _ (by kernel_rfl)] at h
  have h2 := laidMet.tail (laidMet.tail h)
  have h3 := laidMet.tail h2
  exact ⟨neut_of_head h3, names_of_laid (laidMet.tail h3), pows_of_laid h2⟩

theorem walk (a0 : Int) (w0 : (Lit.int .i64 a0).wf = true) (w : World) (hN : Neut w ∧ Names w ∧ Pows w) :
    Calls Tryd.prog 9 #[.int .i64 a0] w fun e w' => e = .returned (.bool true) ∧ Below w.heap.size w w' := by
  obtain ⟨hN1, hN2, hN3⟩ := hN
  go_enter Tryd.func9, Tryd.ntmps9
  go_wp2_with fail
  refine (specNumberText_any _ _).mono ?_
  rintro e v1 ⟨rfl, b1⟩
  go_wp2_with fail
  refine (implNumberText_any _ _ (hN1.below b1) (hN2.below b1) (hN3.below b1)).mono ?_
  rintro e v2 ⟨rfl, b2⟩
  go_wp2
  go_ret
  exact ⟨rfl, bel2 b1 b2⟩
end Go.Proofs.YtoeodkkbaieifaaDoor.fnExactNumberText
