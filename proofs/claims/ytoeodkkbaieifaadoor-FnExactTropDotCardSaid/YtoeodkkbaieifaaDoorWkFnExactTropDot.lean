/-
  TropDot answers as its model at every two lists, and leaves the lists as they were.
  No condition but that the table of the two neutral numbers holds what the program's text lays there (the card ties it).
-/
import Derived.Test.YtoeodkkbaieifaaDoorRows
import Derived.WalkKit
import Derived.ProofKit
import Derived.OpenShut
import Derived.ShutString
import Derived.ChangeOld
import Derived.Below
import Derived.Test.YtoeodkkbaieifaaDoorTropB
import Derived.LaidMore
import Derived.Stop.Joined
import Derived.OpenVars
import Derived.Lib.LaidTab
import Derived.MakeChecks
namespace Go.Proofs.YtoeodkkbaieifaaDoor.fnExactTropDot
open Go.ChangeShapes Go.WideShapes Go.ChangeAt Go.RowKit
open Go.ChangeMaps (open_string shut_string)
set_option linter.unusedVariables false



/-- What the condition gives: the table's two cells. -/
theorem laid_of {W : World} (h : laidMetH Tryd.prog Rows.fnExactTropDotRow.laid W) : Neut W := neut_of_laid h

theorem walk (a0 : Option Addr) (len0 cap0 : Nat) (z0 : List Int) (a1 : Option Addr) (len1 cap1 : Nat) (z1 : List Int) (w : World) (w0 : IsRow .i64 w a0 len0 cap0 z0) (w1 : IsRow .i64 w a1 len1 cap1 z1) (hN : Neut w) :
    Calls Tryd.prog 7 #[.slice a0 len0 cap0, .slice a1 len1 cap1] w fun e w' => e = .returned (.bool true) ∧ Below w.heap.size w w' := by
  obtain ⟨hR, hn⟩ := RD.of_row w0
  obtain ⟨hR', hn'⟩ := RD.of_row w1
  have HN := Lib.hid hn
  have HN' := Lib.hid hn'
  clear hn hn'
  by_cases hb : len0 ≤ 1048576
  · by_cases hb' : len1 ≤ 1048576
    · have HM := Lib.hid (show (z0.take len0).length ≤ 1048576 by rw [HN.out]; exact hb)
      have HM' := Lib.hid (show (z1.take len1).length ≤ 1048576 by rw [HN'.out]; exact hb')
      go_enter Tryd.func7, Tryd.ntmps7
      go_wp2_with fail
      refine (toIntS_any _ _ _ _ (z0.take len0) HN.out.symm hR HM.out).mono ?_
      rintro e v1 ⟨r1, rfl, h1, b1⟩
      go_wp2_with fail
      refine (toIntS_any _ _ _ _ (z1.take len1) HN'.out.symm (hR'.below b1) HM'.out).mono ?_
      rintro e v2 ⟨r2, rfl, h2, b2⟩
      have B2 := bel2 b1 b2
      go_wp2_with fail
      refine (specTropDot_any _ _ _ _ _ _ _ (h1.below b2) h2).mono ?_
      rintro e w' ⟨rfl, rfl⟩
      go_wp2_with fail
      refine (toIntS_any _ _ _ _ (z0.take len0) HN.out.symm (hR.below B2) HM.out).mono ?_
      rintro e v3 ⟨x0, rfl, hx0, b3⟩
      have B3 := bel2 B2 b3
      go_wp2_with fail
      refine (toIntS_any _ _ _ _ (z1.take len1) HN'.out.symm (hR'.below B3) HM'.out).mono ?_
      rintro e v4 ⟨x1, rfl, hx1, b4⟩
      have B4 := bel2 B3 b4
      go_wp2_with fail
      refine (implTropDot_any _ (hN.below B4) _ _ _ _ _ _ (hx0.below b4) hx1).mono ?_
      rintro e v5 ⟨rfl, b5⟩
      have B5 := bel2 B4 b5
      go_wp2_with fail
      refine (toIntS_any _ _ _ _ (z0.take len0) HN.out.symm (hR.below B5) HM.out).mono ?_
      rintro e v6 ⟨y0, rfl, hy0, b6⟩
      have B6 := bel2 B5 b6
      go_wp2_with fail
      refine (eqIntS_any _ _ _ _ _ _ _ (((hx0.below b4).below b5).below b6) hy0).mono ?_
      rintro e w' ⟨rfl, n1, rfl⟩
      have B7 := belN B6 n1
      go_wp2_with fail
      refine (toIntS_any _ _ _ _ (z1.take len1) HN'.out.symm (hR'.below B7) HM'.out).mono ?_
      rintro e v8 ⟨y1, rfl, hy1, b8⟩
      have B8 := bel2 B7 b8
      go_wp2_with fail
      refine (eqIntS_any _ _ _ _ _ _ _ ((((hx1.below b5).below b6).drewN n1).below b8) hy1).mono ?_
      rintro e w' ⟨rfl, n2, rfl⟩
      go_wp2
      go_ret
      exact ⟨rfl, belN B8 n2⟩
    · go_enter Tryd.func7, Tryd.ntmps7
      go_wp2
      go_ret
      exact ⟨rfl, Below.refl _ _⟩
  · go_enter Tryd.func7, Tryd.ntmps7
    go_wp2
    go_ret
    exact ⟨rfl, Below.refl _ _⟩
end Go.Proofs.YtoeodkkbaieifaaDoor.fnExactTropDot
