/-
  ParseFrac answers as its model, whatever the text.
  No condition but that the tables and the sentinels of Go's library hold what the library's text lays there (the card ties them).
-/
import Derived.Test.YtcnaopgikedgfaaDoorRows
import Derived.WalkKit
import Derived.ProofKit
import Derived.OpenShut
import Derived.ShutString
import Derived.Below
import Derived.Carry
import Derived.Lib.SmallJoins
import Derived.MakeChecks
import Derived.OpenVars
import Derived.LaidMore
import Derived.Stop.Joined
import Derived.Lib.LaidTab
import Derived.Test.YtcnaopgikedgfaaDoorFracH
namespace Go.Proofs.YtcnaopgikedgfaaDoor.fnExactParseFrac
set_option linter.unusedSimpArgs false
set_option linter.unusedVariables false
open Go.ChangeShapes Go.WideShapes Go.ChangeAt Go.RowKit
open Go.ChangeMaps (open_string shut_string)
set_option linter.unusedVariables false
/-- What the condition gives: the table's cells, the two sentinels, and that a variable of the library's holds some integer. -/
theorem laid_of {W : World} (h : laidMetH Tryd.prog Rows.fnExactParseFracRow.laid W) (hsh : W.ShapedOpen Tryd.prog) : Pows W ∧ Sents W ∧ MaxL W := by
  rw [MakeChecks.laidMetH_plain _ _ _ (by kernel_rfl)] at h
  have h2 := laidMet.tail (laidMet.tail h)
  have h3 := laidMet.tail h2
  have h4 := laidMet.tail h3
  exact ⟨pows_of_laid h2, ⟨syntax_of_laid h4, range_of_laid h3⟩, Tryd.laysM145.s1_3 W hsh⟩

theorem walk (a0 : ByteArray) (w : World) (w0 : a0.size ≤ maxLen) (hN : Pows w ∧ Sents w ∧ MaxL w) :
    Calls Tryd.prog 4 #[.string a0] w fun e w' => e = .returned (.bool true) ∧ Below w.heap.size w w' := by
  obtain ⟨hN1, hN2, hN3⟩ := hN
  by_cases hb : a0.size ≤ 1048576
  · go_enter Tryd.func4, Tryd.ntmps4
    go_wp2_with fail
    refine (specParseFrac_any _ _ (by omega)).mono ?_
    rintro e w1 ⟨rfl, b1⟩
    have H1 := Lib.hid (hN1.below b1)
    have H2 := Lib.hid (hN2.below b1)
    have H3 := Lib.hid (hN3.below b1)
    have A1 : Below w1.heap.size w1 (w1.alloc (.cells #[.int .i64 (okF (okQ a0.data.toList) (fpN a0.data.toList)), .int .i64 (okF (okQ a0.data.toList) (fpD a0.data.toList))] 26)) := (Below.refl _ _).alloc (Nat.le_refl _) _
    have F1 := F2.new w1 (okF (okQ a0.data.toList) (fpN a0.data.toList)) (okF (okQ a0.data.toList) (fpD a0.data.toList))
    go_wp2_with fail
    refine (implParseFrac_any _ _ (by omega) (H1.out.below A1) (H2.out.below A1) (H3.out.below A1)).mono ?_
    rintro e w2 ⟨rfl, b2⟩
    obtain ⟨c0, c1, -, -⟩ := F1.below b2
    have s2 : w1.heap.size < w2.heap.size := cell_lt c0
    have B2 := bel2 (bel2 b1 A1) b2
    clear F1
    go_wp2_with fail
    refine (eqFrac_same _ _ _).mono ?_
    rintro e w3 ⟨rfl, b3⟩
    go_wp2_with fail
    go_ret
    exact ⟨rfl, bel2 (B2.alloc B2.size _) b3⟩
  · go_enter Tryd.func4, Tryd.ntmps4
    go_wp2
    go_ret
    exact ⟨rfl, Below.refl _ _⟩
end Go.Proofs.YtcnaopgikedgfaaDoor.fnExactParseFrac
