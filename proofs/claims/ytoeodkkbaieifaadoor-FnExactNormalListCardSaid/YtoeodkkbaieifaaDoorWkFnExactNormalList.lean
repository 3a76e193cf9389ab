/-
  NormalList answers as its model at every list, leaves the list as it was, and answers in memory of its own.
  No condition but that the table of the two neutral numbers holds what the program's text lays there (the card ties it).
-/
import Derived.Test.YtoeodkkbaieifaaDoorRows
import Derived.WalkKit
import Derived.ProofKit
import Derived.OpenShut
import Derived.ShutString
import Derived.ChangeOld
import Derived.Below
import Derived.Test.YtoeodkkbaieifaaDoorTropB
import Derived.LaidMore
import Derived.Stop.Joined
import Derived.OpenVars
import Derived.Lib.LaidTab
import Derived.MakeChecks
namespace Go.Proofs.YtoeodkkbaieifaaDoor.fnExactNormalList
open Go.ChangeShapes Go.WideShapes Go.ChangeAt Go.RowKit
open Go.ChangeMaps (open_string shut_string)
set_option linter.unusedVariables false



/-- What the condition gives: the table's two cells. -/
theorem laid_of {W : World} (h : laidMetH Tryd.prog Rows.fnExactNormalListRow.laid W) : Neut W := neut_of_laid h

theorem walk (a0 : Option Addr) (len0 cap0 : Nat) (z0 : List Int) (w : World) (w0 : IsRow .i64 w a0 len0 cap0 z0) (hN : Neut w) :
    Calls Tryd.prog 8 #[.slice a0 len0 cap0] w fun e w' => e = .returned (.bool true) ∧ Below w.heap.size w w' := by
  obtain ⟨hR, hn⟩ := RD.of_row w0
  have HN := Lib.hid hn
  clear hn
  by_cases hb : len0 ≤ 1048576
  · have hm : (z0.take len0).length ≤ 1048576 := by rw [HN.out]; exact hb
    have HM := Lib.hid hm
    clear hm
    go_enter Tryd.func8, Tryd.ntmps8
    go_wp2_with fail
    refine (toIntS_any _ _ _ _ (z0.take len0) HN.out.symm hR HM.out).mono ?_
    rintro e w1 ⟨r1, rfl, h1, b1⟩
    go_wp2_with fail
    refine (specNormalList_any _ _ _ _ h1).mono ?_
    rintro e w2 ⟨s, rfl, hs, b2⟩
    have is := hs.in_
    have B2 := bel2 b1 b2
    go_wp2_with fail
    refine (toIntS_any _ _ _ _ (z0.take len0) HN.out.symm (hR.below B2) HM.out).mono ?_
    rintro e w3 ⟨x, rfl, hx, b3⟩
    have ix := hx.in_
    have B3 := bel2 B2 b3
    have hs3 := hs.below b3
    go_wp2_with fail
    refine (implNormalList_any _ (hN.below B3) _ _ _ hx).mono ?_
    rintro e w4 ⟨g, rfl, hg, b4⟩
    have ig := hg.in_
    have B4 := bel2 B3 b4
    have hs4 := hs3.below b4
    have hx4 := hx.below b4
    go_wp2_with fail
    refine (eqIntS_any _ _ _ _ _ _ _ hg hs4).mono ?_
    rintro e w' ⟨rfl, n1, rfl⟩
    go_wp2_with fail
    refine (toIntS_any _ _ _ _ (z0.take len0) HN.out.symm (hR.below (belN B4 n1)) HM.out).mono ?_
    rintro e w5 ⟨y, rfl, hy, b5⟩
    have B5 := bel2 (belN B4 n1) b5
    have hs5 := (hs4.drewN n1).below b5
    have hx5 := (hx4.drewN n1).below b5
    have hg5 := (hg.drewN n1).below b5
    go_wp2_with fail
    refine (eqIntS_any _ _ _ _ _ _ _ hx5 hy).mono ?_
    rintro e w' ⟨rfl, n2, rfl⟩
    go_wp2_with fail
    refine (markIntS_any _ _ _ _ 1 (hx5.drewN n2) (by omega) HM.out).mono ?_
    rintro e w6 ⟨rfl, hx6, gr6, z6⟩
    have Z6 := Lib.hid z6
    clear z6
    have hs6 := (hs5.drewN n2).marked is ix (.inl (Nat.le_refl _)) gr6
    have hg6 := (hg5.drewN n2).marked ig ix (.inr (Nat.le_refl _)) gr6
    have B6 := belM (belN B5 n2) ix B2.size gr6
    clear gr6
    go_wp2_with fail
    refine (eqIntS_any _ _ _ _ _ _ _ hg6 hs6).mono ?_
    rintro e w' ⟨rfl, n3, rfl⟩
    go_wp2_with fail
    refine (markIntS_any _ _ _ _ 1 (hg6.drewN n3) (by omega) (nmRes_le HM.out)).mono ?_
    rintro e w7 ⟨rfl, hg7, gr7, z7⟩
    have Z7 := Lib.hid z7
    clear z7
    have hs7 := (hs6.drewN n3).marked is ig (.inl (Nat.le_trans b3.size (Nat.le_refl _))) gr7
    have B7 := belM (belN B6 n3) ig (Nat.le_trans B2.size b3.size) gr7
    clear gr7
    go_wp2_with fail
    refine (heldIntS_any _ _ _ _ 1 hg7 (by omega) (nmRes_le HM.out)).mono ?_
    rintro e w' ⟨rfl, rfl⟩
    go_wp2_with fail
    refine (toIntS_any _ _ _ _ (z0.take len0) HN.out.symm (hR.below B7) HM.out).mono ?_
    rintro e w8 ⟨u, rfl, hu, b8⟩
    have B8 := bel2 B7 b8
    have hs8 := hs7.below b8
    have hg8 := hg7.below b8
    go_wp2_with fail
    refine (implNormalList_any _ (hN.below B8) _ _ _ hu).mono ?_
    rintro e w9 ⟨h, rfl, hh, b9⟩
    have B9 := bel2 B8 b9
    have hs9 := hs8.below b9
    have hg9 := hg8.below b9
    go_wp2_with fail
    refine (eqIntS_any _ _ _ _ _ _ _ hh hs9).mono ?_
    rintro e w' ⟨rfl, n4, rfl⟩
    go_wp2_with fail
    refine (heldIntS_any _ _ _ _ 1 (hg9.drewN n4) (by omega) (nmRes_le HM.out)).mono ?_
    rintro e w' ⟨rfl, rfl⟩
    go_wp2
    go_ret
    exact ⟨rfl, belN B9 n4⟩
  · go_enter Tryd.func8, Tryd.ntmps8
    go_wp2
    go_ret
    exact ⟨rfl, Below.refl _ _⟩
end Go.Proofs.YtoeodkkbaieifaaDoor.fnExactNormalList
