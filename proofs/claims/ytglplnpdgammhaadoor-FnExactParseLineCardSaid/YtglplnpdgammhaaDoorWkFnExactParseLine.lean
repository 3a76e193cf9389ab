/-
  ParseLine answers as its model, whatever the text.
  No condition: every line and every text; what the program and the library hold from their start reads as laid.
-/
import Derived.Test.YtglplnpdgammhaaDoorRows
import Derived.WalkKit
import Derived.ProofKit
import Derived.OpenShut
import Derived.ShutString
import Derived.Below
import Derived.Carry
import Derived.Lib.SmallJoins
import Derived.SizedLaws
import Derived.MakeChecks
import Derived.OpenVars
import Derived.LaidMore
import Derived.Stop.Joined
import Derived.Lib.LaidTab
import Derived.Test.YtglplnpdgammhaaDoorLnM
namespace Go.Proofs.YtglplnpdgammhaaDoor.fnExactParseLine
set_option linter.unusedSimpArgs false
set_option linter.unusedVariables false
open Go.ChangeShapes Go.WideShapes Go.ChangeAt Go.RowKit
open Go.ChangeMaps (open_string shut_string)
set_option linter.unusedVariables false
/-- What the condition gives: the tables' cells. -/
theorem laid_of {W : World} (h : laidMetH Tryd.prog Rows.fnExactParseLineRow.laid W) (hsh : W.ShapedOpen Tryd.prog) : Neut W ∧ Names W ∧ Pows W ∧ Sents W ∧ MaxM W := by
  rw [MakeChecks.laidMetH_plain _ _ _ (by kernel_rfl)] at h
  have h1 := laidMet.tail h
  have h2 := laidMet.tail h1
  have h3 := laidMet.tail h2
  have h4 := laidMet.tail h3
  have h5 := laidMet.tail h4
  have h6 := laidMet.tail h5
  have h7 := laidMet.tail h6
  have h8 := laidMet.tail h7
  exact ⟨neut_of_head h6, names_of_laid h7, pows_of_laid h2, ⟨syntax_of_laid h5, range_of_laid h4⟩, Tryd.laysM147.s1_3 W hsh⟩

theorem walk (a0 : ByteArray) (w : World) (w0 : a0.size ≤ maxLen) (hN : Neut w ∧ Names w ∧ Pows w ∧ Sents w ∧ MaxM w) :
    Calls Tryd.prog 4 #[.string a0] w fun e w' => e = .returned (.bool true) ∧ Below w.heap.size w w' := by
  obtain ⟨hN0, hN1, hN2, hN3, hN4⟩ := hN
  have N0 := Lib.hid hN0
  have N1 := Lib.hid hN1
  have N2 := Lib.hid hN2
  have N3 := Lib.hid hN3
  have N4 := Lib.hid hN4
  clear hN0 hN1 hN2 hN3 hN4
  by_cases hb0 : a0.size ≤ 1048576
  · skip
    go_enter Tryd.func4, Tryd.ntmps4
    go_wp2_with fail
    refine (specParseLine_any _ _ (by omega)).mono ?_
    rintro e v1 ⟨rfl, b1⟩
    have B1 := b1
    have bx1 : Below v1.heap.size v1 (v1.alloc (.cells #[.int .i64 ((lpR a0.data.toList).1), .int .i64 ((lpR a0.data.toList).2.1), .int .i64 ((lpR a0.data.toList).2.2)] 26)) := (Below.refl _ _).alloc (Nat.le_refl _) _
    have B1 := bel2 B1 bx1
    have hw0 := T3.newL v1 ((lpR a0.data.toList).1) ((lpR a0.data.toList).2.1) ((lpR a0.data.toList).2.2)
    go_wp2_with fail
    refine (implParseLine_any _ _ (by omega) (N0.out.below B1) (N1.out.below B1) (N2.out.below B1) (N3.out.below B1) (N4.out.below B1)).mono ?_
    rintro e v2 ⟨rfl, b2⟩
    have B2 := bel2 B1 b2
    have hw0_2 := hw0.below b2
    have bx2 : Below v2.heap.size v2 (v2.alloc (.cells #[.int .i64 ((lpR a0.data.toList).1), .int .i64 ((lpR a0.data.toList).2.1), .int .i64 ((lpR a0.data.toList).2.2)] 26)) := (Below.refl _ _).alloc (Nat.le_refl _) _
    have B2 := bel2 B2 bx2
    have hw0_2 := hw0_2.below bx2
    have hg0 := T3.newL v2 ((lpR a0.data.toList).1) ((lpR a0.data.toList).2.1) ((lpR a0.data.toList).2.2)
    have cg0 := hg0
    obtain ⟨cg00, cg01, cg02⟩ := cg0
    have cw0 := hw0_2
    obtain ⟨cw00, cw01, cw02⟩ := cw0
    go_wp2_with fail
    refine (eqLine_same _ _ _ _).mono ?_
    rintro e v3 ⟨rfl, g3⟩
    have b3 := g3.below
    clear cg00 cg01 cg02 cw00 cw01 cw02
    have B3 := bel2 B2 b3
    have hw0_3 := hw0_2.below b3
    have hg0_3 := hg0.below b3
    go_wp2
    go_ret
    exact ⟨rfl, B3⟩
  · go_enter Tryd.func4, Tryd.ntmps4
    go_wp2
    go_ret
    exact ⟨rfl, Below.refl _ _⟩
end Go.Proofs.YtglplnpdgammhaaDoor.fnExactParseLine
