/-
  EndTerms answers as its model at every argument, and leaves the lists as they were.
  No condition: every slice of integers (nil and too long ones too) and every integer.
-/
import Derived.Test.YtbhmlfidideemaaRows
import Derived.WalkKit
import Derived.ProofKit
import Derived.OpenShut
import Derived.ShutString
import Derived.Below
import Derived.Carry
import Derived.Lib.SmallJoins
import Derived.SizedLaws
import Derived.Test.YtbhmlfidideemaaPolyE
namespace Go.Proofs.Ytbhmlfidideemaa.fnExactEndTerms
set_option linter.unusedSimpArgs false
set_option linter.unusedVariables false
open Go.ChangeShapes Go.WideShapes Go.ChangeAt Go.RowKit
open Go.ChangeMaps (open_string shut_string)
set_option linter.unusedVariables false
theorem walk (a0 : Option Addr) (len0 cap0 : Nat) (z0 : List Int) (w : World) (w0 : IsRow .i64 w a0 len0 cap0 z0) :
    Calls Try.prog 7 #[.slice a0 len0 cap0] w fun e w' => e = .returned (.bool true) ∧ Below w.heap.size w w' := by
  obtain ⟨hR0, hn0⟩ := RD.of_row w0
  obtain ⟨p0, hp0⟩ : ∃ p, z0.take len0 = p := ⟨_, rfl⟩
  rw [hp0] at hR0 hn0
  have HN0 := Lib.hid hn0
  clear hn0 hp0
  by_cases hb0 : len0 ≤ 1048576
  · have HM0 := Lib.hid (show p0.length ≤ 1048576 by rw [HN0.out]; exact hb0)
    go_enter Try.func7, Try.ntmps7
    go_wp2_with fail
    refine (toIntS_any _ _ _ _ p0 HN0.out.symm hR0 HM0.out).mono ?_
    rintro e v1 ⟨r1, rfl, ht1, b1⟩
    have B1 := b1
    have it1 := ht1.in_
    go_wp2_with fail
    refine (specEndTerms_any _ _ _ _ ht1).mono ?_
    rintro e w' ⟨rfl, rfl⟩
    go_wp2_with fail
    refine (toIntS_any _ _ _ _ p0 HN0.out.symm (hR0.below B1) HM0.out).mono ?_
    rintro e v2 ⟨r2, rfl, hx0, b2⟩
    have B2 := bel2 B1 b2
    have ix0 := hx0.in_
    go_wp2_with fail
    refine (implEndTerms_any _ _ _ _ hx0).mono ?_
    rintro e w' ⟨rfl, rfl⟩
    go_wp2_with fail
    refine (toIntS_any _ _ _ _ p0 HN0.out.symm (hR0.below B2) HM0.out).mono ?_
    rintro e v3 ⟨r3, rfl, ht2, b3⟩
    have B3 := bel2 B2 b3
    have hx0_3 := hx0.below b3
    have it2 := ht2.in_
    go_wp2_with fail
    refine (eqIntS_any _ _ _ _ _ _ _ hx0_3 ht2).mono ?_
    rintro e w' ⟨rfl, n1, rfl⟩
    have D1 := belN B3 n1
    have hx0_d1 := hx0_3.drewN n1
    have ht2_d1 := ht2.drewN n1
    go_wp2
    go_ret
    exact ⟨rfl, D1⟩
  · go_enter Try.func7, Try.ntmps7
    go_wp2
    go_ret
    exact ⟨rfl, Below.refl _ _⟩
end Go.Proofs.Ytbhmlfidideemaa.fnExactEndTerms
