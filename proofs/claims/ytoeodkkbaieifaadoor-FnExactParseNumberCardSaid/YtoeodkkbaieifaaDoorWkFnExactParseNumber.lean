/-
  ParseNumber answers as its model, whatever the text.
  No condition but that the tables and the sentinels of the program and of Go's library hold what the program's text lays there (the card ties them).
-/
import Derived.Test.YtoeodkkbaieifaaDoorRows
import Derived.WalkKit
import Derived.ProofKit
import Derived.OpenShut
import Derived.ShutString
import Derived.Test.YtoeodkkbaieifaaDoorParse
import Derived.Below
import Derived.Carry
import Derived.LaidMore
import Derived.Stop.Joined
import Derived.OpenVars
import Derived.Lib.LaidTab
import Derived.MakeChecks
namespace Go.Proofs.YtoeodkkbaieifaaDoor.fnExactParseNumber
open Go.ChangeShapes Go.WideShapes Go.ChangeAt Go.RowKit
open Go.ChangeMaps (open_string shut_string)
set_option linter.unusedVariables false      -- a walk need not use every 'w<i>' (that an integer argument fits its kind)



/-- What the condition gives: the tables' cells, the two sentinels. -/
theorem laid_of {W : World} (h : laidMetH Tryd.prog Rows.fnExactParseNumberRow.laid W) : Neut W ∧ Names W ∧ Pows W ∧ Sents W := by
  rw [MakeChecks.laidMetH_plain _ _ _ (by kernel_rfl)] at h
  have h2 := laidMet.tail (laidMet.tail h)
  have h3 := laidMet.tail h2
  have h4 := laidMet.tail h3
  have h5 := laidMet.tail h4
  exact ⟨neut_of_head h5, names_of_laid (laidMet.tail h5), pows_of_laid h2, syntax_of_laid h4, range_of_laid h3⟩

theorem walk (a0 : ByteArray) (w0 : a0.size ≤ maxLen) (w : World) (hN : Neut w ∧ Names w ∧ Pows w ∧ Sents w) :
    Calls Tryd.prog 10 #[.string a0] w fun e w' => e = .returned (.bool true) ∧ Below w.heap.size w w' := by
  obtain ⟨hN1, hN2, hN3, hN4⟩ := hN
  by_cases hb : a0.size ≤ 1048576
  · go_enter Tryd.func10, Tryd.ntmps10
    go_wp2_with fail
    refine (specParseNumber_any _ _ (by omega)).mono ?_
    rintro e v1 ⟨rfl, b1⟩
    go_wp2_with fail
    refine (implParseNumber_any _ _ (by omega) (hN1.below b1) (hN2.below b1) (hN3.below b1) (hN4.below b1)).mono ?_
    rintro e v2 ⟨rfl, b2⟩
    go_wp2
    go_ret
    exact ⟨rfl, bel2 b1 b2⟩
  · go_enter Tryd.func10, Tryd.ntmps10
    go_wp2
    go_ret
    exact ⟨rfl, Below.refl _ _⟩
end Go.Proofs.YtoeodkkbaieifaaDoor.fnExactParseNumber
