/-
  DoesVanish answers as its model at every list, and leaves the list as it was.
  No condition but that the table of the two neutral numbers holds what the program's text lays there (the card ties it).
-/
import Derived.Test.YtoeodkkbaieifaaDoorRows
import Derived.WalkKit
import Derived.ProofKit
import Derived.OpenShut
import Derived.ShutString
import Derived.ChangeOld
import Derived.Below
import Derived.Test.YtoeodkkbaieifaaDoorTrop
import Derived.LaidMore
import Derived.Stop.Joined
import Derived.OpenVars
import Derived.Lib.LaidTab
import Derived.MakeChecks
namespace Go.Proofs.YtoeodkkbaieifaaDoor.fnExactDoesVanish
open Go.ChangeShapes Go.WideShapes Go.ChangeAt Go.RowKit
open Go.ChangeMaps (open_string shut_string)
set_option linter.unusedVariables false



/-- What the condition gives: the table's two cells. -/
theorem laid_of {W : World} (h : laidMetH Tryd.prog Rows.fnExactDoesVanishRow.laid W) : Neut W := neut_of_laid h

theorem walk (a0 : Option Addr) (len0 cap0 : Nat) (z0 : List Int) (w : World) (w0 : IsRow .i64 w a0 len0 cap0 z0) (hN : Neut w) :
    Calls Tryd.prog 6 #[.slice a0 len0 cap0] w fun e w' => e = .returned (.bool true) ∧ Below w.heap.size w w' := by
  obtain ⟨hR, hn⟩ := RD.of_row w0
  have HN := Lib.hid hn
  clear hn
  by_cases hb : len0 ≤ 1048576
  · have HM := Lib.hid (show (z0.take len0).length ≤ 1048576 by rw [HN.out]; exact hb)
    go_enter Tryd.func6, Tryd.ntmps6
    go_wp2_with fail
    refine (toIntS_any _ _ _ _ (z0.take len0) HN.out.symm hR HM.out).mono ?_
    rintro e w1 ⟨r1, rfl, h1, b1⟩
    go_wp2_with fail
    refine (specDoesVanish_any _ _ _ _ h1).mono ?_
    rintro e w2 ⟨rfl, b2⟩
    have B2 := bel2 b1 b2
    go_wp2_with fail
    refine (toIntS_any _ _ _ _ (z0.take len0) HN.out.symm (hR.below B2) HM.out).mono ?_
    rintro e w3 ⟨x, rfl, hx, b3⟩
    have B3 := bel2 B2 b3
    go_wp2_with fail
    refine (implDoesVanish_any _ (hN.below B3) _ _ _ hx).mono ?_
    rintro e w4 ⟨rfl, b4⟩
    have B4 := bel2 B3 b4
    go_wp2_with fail
    refine (toIntS_any _ _ _ _ (z0.take len0) HN.out.symm (hR.below B4) HM.out).mono ?_
    rintro e w5 ⟨y, rfl, hy, b5⟩
    have B5 := bel2 B4 b5
    go_wp2_with fail
    refine (eqIntS_any _ _ _ _ _ _ _ ((hx.below b4).below b5) hy).mono ?_
    rintro e w' ⟨rfl, n, rfl⟩
    go_wp2
    go_ret
    exact ⟨rfl, belN B5 n⟩
  · go_enter Tryd.func6, Tryd.ntmps6
    go_wp2
    go_ret
    exact ⟨rfl, Below.refl _ _⟩
end Go.Proofs.YtoeodkkbaieifaaDoor.fnExactDoesVanish
