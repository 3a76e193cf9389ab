/-
  MeanOfNumbers answers as its model at every list, and leaves the list as it was.
  No condition: every list of integers of Go's int.
-/
import Derived.Test.YtcnaopgikedgfaaRows
import Derived.WalkKit
import Derived.ProofKit
import Derived.OpenShut
import Derived.ShutString
import Derived.Below
import Derived.Carry
import Derived.Lib.SmallJoins
import Derived.Test.YtcnaopgikedgfaaFracD
namespace Go.Proofs.Ytcnaopgikedgfaa.fnExactMeanOfNumbers
set_option linter.unusedSimpArgs false
set_option linter.unusedVariables false
open Go.ChangeShapes Go.WideShapes Go.ChangeAt Go.RowKit
open Go.ChangeMaps (open_string shut_string)
set_option linter.unusedVariables false
theorem walk (a0 : Option Addr) (len0 cap0 : Nat) (z0 : List Int) (w : World) (w0 : IsRow .i64 w a0 len0 cap0 z0) :
    Calls Try.prog 12 #[.slice a0 len0 cap0] w fun e w' => e = .returned (.bool true) ∧ Below w.heap.size w w' := by
  obtain ⟨hR, hn⟩ := RD.of_row w0
  generalize z0.take len0 = zs at hR hn
  have HN := Lib.hid hn
  clear hn
  by_cases hb : len0 ≤ 1048576
  · have hm : zs.length ≤ 1048576 := by rw [HN.out]; exact hb
    have HM := Lib.hid hm
    clear hm
    go_enter Try.func12, Try.ntmps12
    go_wp2_with fail
    refine (toIntS_any _ _ _ _ zs HN.out.symm hR HM.out).mono ?_
    rintro e w1 ⟨r1, rfl, h1, b1⟩
    go_wp2_with fail
    refine (specMean_any _ _ _ _ h1).mono ?_
    rintro e w2 ⟨rfl, b2⟩
    have B2 := bel2 b1 b2
    have HF := Lib.hid (F2.new w2 (okF (meanB zs) (mkN (sumI zs) zs.length)) (okF (meanB zs) (mkD (sumI zs) zs.length)))
    go_wp2_with fail
    have B3 := Lib.hid (B2.alloc B2.size (.cells #[.int .i64 (okF (meanB zs) (mkN (sumI zs) zs.length)), .int .i64 (okF (meanB zs) (mkD (sumI zs) zs.length))] 25))
    refine (toIntS_any _ _ _ _ zs HN.out.symm (hR.below B3.out) HM.out).mono ?_
    rintro e w3 ⟨x, rfl, hx, b3⟩
    have B4 := Lib.hid (bel2 B3.out b3)
    go_wp2_with fail
    refine (implMean_any _ _ _ _ hx).mono ?_
    rintro e w4 ⟨rfl, b4⟩
    obtain ⟨c0, c1, -, -⟩ := (HF.out.below b3).below b4
    have s4 : w2.heap.size < w4.heap.size := cell_lt c0
    have B5 := bel2 B4.out b4
    have hx4 := hx.below b4
    go_wp2_with fail
    refine (eqFrac_same _ _ _).mono ?_
    rintro e w5 ⟨rfl, b5⟩
    have B6 := bel2 (B5.alloc B5.size _) b5
    have hx5 := (hx4.alloc _).below b5
    go_wp2_with fail
    refine (toIntS_any _ _ _ _ zs HN.out.symm (hR.below B6) HM.out).mono ?_
    rintro e w6 ⟨y, rfl, hy, b6⟩
    have B7 := bel2 B6 b6
    have hx6 := hx5.below b6
    go_wp2_with fail
    refine (eqIntS_any _ _ _ _ _ _ _ hx6 hy).mono ?_
    rintro e w' ⟨rfl, n1, rfl⟩
    go_wp2_with fail
    go_ret
    exact ⟨rfl, belN B7 n1⟩
  · go_enter Try.func12, Try.ntmps12
    go_wp2
    go_ret
    exact ⟨rfl, Below.refl _ _⟩
end Go.Proofs.Ytcnaopgikedgfaa.fnExactMeanOfNumbers
