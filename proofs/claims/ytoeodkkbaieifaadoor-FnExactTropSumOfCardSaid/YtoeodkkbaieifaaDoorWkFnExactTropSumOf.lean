/-
  TropSumOf answers as its model at every list, and leaves the list as it was.
  No condition but that the table of the two neutral numbers holds what the program's text lays there (the card ties it).
-/
import Derived.Test.YtoeodkkbaieifaaDoorRows
import Derived.WalkKit
import Derived.ProofKit
import Derived.OpenShut
import Derived.ShutString
import Derived.ChangeOld
import Derived.Below
import Derived.Test.YtoeodkkbaieifaaDoorTrop
import Derived.LaidMore
import Derived.Stop.Joined
import Derived.OpenVars
import Derived.Lib.LaidTab
import Derived.MakeChecks
namespace Go.Proofs.YtoeodkkbaieifaaDoor.fnExactTropSumOf
open Go.ChangeShapes Go.WideShapes Go.ChangeAt Go.RowKit
open Go.ChangeMaps (open_string shut_string)
set_option linter.unusedVariables false



/-- What the condition gives: the table's two cells. -/
theorem laid_of {W : World} (h : laidMetH Tryd.prog Rows.fnExactTropSumOfRow.laid W) : Neut W := by
  rw [MakeChecks.laidMetH_plain _ _ _ (by kernel_rfl)] at h
  have hT := Lib.tabIs_of_head (zs := [1000000000, 0]) (k := .i64) (rest := []) (show Tryd.prog.globalNamed "loop.example/g01056/impl.neutralNumbers" = some 0 by kernel_rfl) (show (Tryd.prog.globals[0]?).map (·.type) = some 45 by kernel_rfl) Tryd.underlying45 Tryd.underlying3 (by kernel_rfl) (by kernel_rfl) h
  exact ⟨hT.cell (by kernel_rfl) 0 (by decide), hT.cell (by kernel_rfl) 1 (by decide)⟩

theorem walk (a0 : Option Addr) (len0 cap0 : Nat) (z0 : List Int) (w : World) (w0 : IsRow .i64 w a0 len0 cap0 z0) (hN : Neut w) :
    Calls Tryd.prog 4 #[.slice a0 len0 cap0] w fun e w' => e = .returned (.bool true) ∧ Below w.heap.size w w' := by
  obtain ⟨hR, hn⟩ := RD.of_row w0
  have HN := Lib.hid hn
  clear hn
  have hm := z0.length
  by_cases hb : len0 ≤ 1048576
  · go_enter Tryd.func4, Tryd.ntmps4
    go_wp2_with fail
    refine (toIntS_any _ _ _ _ (z0.take len0) HN.out.symm hR (by rw [HN.out]; exact hb)).mono ?_
    rintro e w1 ⟨r1, rfl, h1, b1⟩
    go_wp2_with fail
    refine (specTropSumOf_any _ _ _ _ h1).mono ?_
    rintro e w' ⟨rfl, rfl⟩
    go_wp2_with fail
    refine (toIntS_any _ _ _ _ (z0.take len0) HN.out.symm (hR.below b1) (by rw [HN.out]; exact hb)).mono ?_
    rintro e w2 ⟨r2, rfl, h2, b2⟩
    go_wp2_with fail
    refine (implTropSumOf_any _ ((hN.below b1).below b2) _ _ _ h2).mono ?_
    rintro e w' ⟨rfl, rfl⟩
    go_wp2_with fail
    refine (toIntS_any _ _ _ _ (z0.take len0) HN.out.symm ((hR.below b1).below b2) (by rw [HN.out]; exact hb)).mono ?_
    rintro e w3 ⟨r3, rfl, h3, b3⟩
    go_wp2_with fail
    refine (eqIntS_any _ _ _ _ _ _ _ (h2.below b3) h3).mono ?_
    rintro e w' ⟨rfl, n, rfl⟩
    go_wp2
    go_ret
    exact ⟨rfl, belN (bel2 (bel2 b1 b2) b3) n⟩
  · go_enter Tryd.func4, Tryd.ntmps4
    go_wp2
    go_ret
    exact ⟨rfl, Below.refl _ _⟩
end Go.Proofs.YtoeodkkbaieifaaDoor.fnExactTropSumOf
