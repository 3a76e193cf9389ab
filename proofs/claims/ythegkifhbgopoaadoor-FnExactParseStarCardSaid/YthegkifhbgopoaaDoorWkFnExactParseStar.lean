/-
  ParseStar answers as its model, whatever the text, and answers in memory of its own.
  No condition: every list and every text; what the program and the library hold from their start reads as laid.
-/
import Derived.Test.YthegkifhbgopoaaDoorRows
import Derived.WalkKit
import Derived.ProofKit
import Derived.OpenShut
import Derived.ShutString
import Derived.Below
import Derived.Carry
import Derived.Lib.SmallJoins
import Derived.SizedLaws
import Derived.MakeChecks
import Derived.OpenVars
import Derived.LaidMore
import Derived.Stop.Joined
import Derived.Lib.LaidTab
import Derived.Test.YthegkifhbgopoaaDoorStParL
namespace Go.Proofs.YthegkifhbgopoaaDoor.fnExactParseStar
set_option linter.unusedSimpArgs false
set_option linter.unusedVariables false
open Go.ChangeShapes Go.WideShapes Go.ChangeAt Go.RowKit
open Go.ChangeMaps (open_string shut_string)
set_option linter.unusedVariables false
/-- What the condition gives: the tables' cells. -/
theorem laid_of {W : World} (h : laidMetH Tryd.prog Rows.fnExactParseStarRow.laid W) (hsh : W.ShapedOpen Tryd.prog) : Neut W ∧ Names W ∧ Pows W ∧ Sents W ∧ MaxM W := by
  rw [MakeChecks.laidMetH_plain _ _ _ (by kernel_rfl)] at h
  have h1 := laidMet.tail h
  have h2 := laidMet.tail h1
  have h3 := laidMet.tail h2
  have h4 := laidMet.tail h3
  have h5 := laidMet.tail h4
  have h6 := laidMet.tail h5
  have h7 := laidMet.tail h6
  have h8 := laidMet.tail h7
  exact ⟨neut_of_head h6, names_of_laid h7, pows_of_laid h2, ⟨syntax_of_laid h5, range_of_laid h4⟩, Tryd.laysM147.s1_3 W hsh⟩

theorem walk (a0 : ByteArray) (w : World) (w0 : a0.size ≤ maxLen) (hN : Neut w ∧ Names w ∧ Pows w ∧ Sents w ∧ MaxM w) :
    Calls Tryd.prog 4 #[.string a0] w fun e w' => e = .returned (.bool true) ∧ Below w.heap.size w w' := by
  obtain ⟨hN0, hN1, hN2, hN3, hN4⟩ := hN
  have N0 := Lib.hid hN0
  have N1 := Lib.hid hN1
  have N2 := Lib.hid hN2
  have N3 := Lib.hid hN3
  have N4 := Lib.hid hN4
  clear hN0 hN1 hN2 hN3 hN4
  by_cases hb0 : a0.size ≤ 1048576
  · skip
    go_enter Tryd.func4, Tryd.ntmps4
    go_wp2_with fail
    refine (specParseStar_any _ _ (by omega)).mono ?_
    rintro e v1 ⟨r1, rfl, hw0, b1⟩
    have B1 := b1
    have iw0 := hw0.in_
    go_wp2_with fail
    refine (implParseStar_any _ _ (by omega) (N0.out.below B1) (N1.out.below B1) (N2.out.below B1) (N3.out.below B1) (N4.out.below B1)).mono ?_
    rintro e v2 ⟨r2, rfl, hg0, b2⟩
    have B2 := bel2 B1 b2
    have hw0_2 := hw0.below b2
    have ig0 := hg0.in_
    go_wp2_with fail
    refine (eqRayS_same _ _ _ _ _ _ _ hg0 hw0_2).mono ?_
    rintro e v3 ⟨rfl, b3⟩
    have B3 := bel2 B2 b3
    have hw0_3 := hw0_2.below b3
    have hg0_3 := hg0.below b3
    go_wp2_with fail
    refine (markRayS_any _ _ _ _ _ _ hg0_3 (by omega) (Nat.le_trans (plpR_le _) (by omega))).mono ?_
    rintro e v4 ⟨rfl, hg0_m1, gr1, z1⟩
    have Z1 := Lib.hid z1
    clear z1
    have hw0_m1 := hw0_3.marked iw0 ig0 (.inl (Nat.le_refl _)) gr1
    have M1 := belM B3 ig0 B1.size gr1
    clear gr1
    go_wp2_with fail
    refine (heldRayS_any _ _ _ _ 1 hg0_m1 (by omega) (Nat.le_trans (plpR_le _) (by omega))).mono ?_
    rintro e w' ⟨rfl, rfl⟩
    go_wp2_with fail
    refine (implParseStar_any _ _ (by omega) (N0.out.below M1) (N1.out.below M1) (N2.out.below M1) (N3.out.below M1) (N4.out.below M1)).mono ?_
    rintro e v5 ⟨r5, rfl, hh0, b5⟩
    have B5 := bel2 M1 b5
    have hw0_5 := hw0_m1.below b5
    have hg0_5 := hg0_m1.below b5
    have ih0 := hh0.in_
    go_wp2_with fail
    refine (eqRayS_same _ _ _ _ _ _ _ hh0 hw0_5).mono ?_
    rintro e v6 ⟨rfl, b6⟩
    have B6 := bel2 B5 b6
    have hw0_6 := hw0_5.below b6
    have hg0_6 := hg0_5.below b6
    have hh0_6 := hh0.below b6
    go_wp2_with fail
    refine (heldRayS_any _ _ _ _ 1 hg0_6 (by omega) (Nat.le_trans (plpR_le _) (by omega))).mono ?_
    rintro e w' ⟨rfl, rfl⟩
    go_wp2
    go_ret
    exact ⟨rfl, B6⟩
  · go_enter Tryd.func4, Tryd.ntmps4
    go_wp2
    go_ret
    exact ⟨rfl, Below.refl _ _⟩
end Go.Proofs.YthegkifhbgopoaaDoor.fnExactParseStar
