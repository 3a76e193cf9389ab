/-
  WidthIn answers as its model at every list and every point, and leaves the list as it was.
  No condition: every slice of points (nil and too long ones too) and every point.
-/
import Derived.Test.YtmkijfkkfhhjjaaRows
import Derived.WalkKit
import Derived.ProofKit
import Derived.OpenShut
import Derived.ShutString
import Derived.Below
import Derived.Carry
import Derived.Lib.SmallJoins
import Derived.SizedLaws
import Derived.Test.YtmkijfkkfhhjjaaPgLe
namespace Go.Proofs.Ytmkijfkkfhhjjaa.fnExactWidthIn
set_option linter.unusedSimpArgs false
set_option linter.unusedVariables false
open Go.ChangeShapes Go.WideShapes Go.ChangeAt Go.RowKit
open Go.ChangeMaps (open_string shut_string)
set_option linter.unusedVariables false
theorem walk (a0 : Option Addr) (len0 cap0 : Nat) (z0 : List Int) (a1_0 : Int) (a1_1 : Int) (w : World) (w0 : IsRowF 2 w a0 len0 z0) (w1_0 : (Lit.int .i64 a1_0).wf = true) (w1_1 : (Lit.int .i64 a1_1).wf = true) :
    Calls Try.prog 13 #[.slice a0 len0 cap0, .agg #[.int .i64 a1_0, .int .i64 a1_1]] w fun e w' => e = .returned (.bool true) ∧ Below w.heap.size w w' := by
  obtain ⟨hn0, hmx0, hR0⟩ := w0
  obtain ⟨l0, hl0, hf0⟩ := flatP_of _ _ hn0
  subst hf0
  subst hl0
  clear hn0
  unfold maxLen at hmx0
  obtain ⟨p, hp⟩ : ∃ p : Pt, p = (a1_0, a1_1) := ⟨_, rfl⟩
  have hX := P2.new w (a1_0, a1_1) 23
  have hbX := (Below.refl _ w).alloc (Nat.le_refl _) (.cells #[.int .i64 a1_0, .int .i64 a1_1] 23)
  by_cases hb0 : l0.length ≤ 1048576
  · have HM0 := Lib.hid (show l0.length ≤ 1048576 by omega)
    have HR := Lib.hid (fun (W : World) (hW : Below (w.alloc (.cells #[.int .i64 a1_0, .int .i64 a1_1] 23)).heap.size (w.alloc (.cells #[.int .i64 a1_0, .int .i64 a1_1] 23)) W) => hR0.below (bel2 hbX hW))
    have HS := Lib.hid (fun (W : World) (r : Value) (B : Nat) (h : PtS W B r l0) => specWidthIn_any W B r l0 p h)
    have HI := Lib.hid (fun (W : World) (r : Value) (B : Nat) (h : PtS W B r l0) => implWidthIn_any W B r l0 p h)
    have HE := Lib.hid hp
    have HPX := Lib.hid hX
    have HBX := Lib.hid hbX
    rw [hp] at HS HI
    clear hp hR0 hbX
    go_enter Try.func13, Try.ntmps13
    go_wp2_with fail
    refine (szPointS_any _ _ _ _ 1048576 (by omega) (by have := HM0.out; omega)).mono ?_
    rintro e w' ⟨rfl, rfl⟩
    rw [if_neg (show ¬ 1048576 - (l0.length : Int) < 0 by have := HM0.out; omega)]
    generalize w.alloc (.cells #[.int .i64 a1_0, .int .i64 a1_1] 23) = X at HR HPX HBX hX ⊢
    have HT := Lib.hid (fun (W : World) (hW : Below X.heap.size X W) => show Calls Try.prog 19 #[.slice a0 l0.length cap0] W fun e w' => ∃ r, e = .returned r ∧ PtS w' X.heap.size r l0 ∧ Below W.heap.size W w' from by
      refine (toPointS_any W _ _ _ _ (flatP_len _) (HR.out W hW) HM0.out).mono ?_
      rintro e w' ⟨r, rfl, hr, hb⟩
      exact ⟨r, rfl, FS.base hr hW.size, hb⟩)
    have hS : S4P X w.heap.size (a1_0, a1_1) X := S4P.of HPX.out (Below.refl _ _)
    obtain ⟨c0, c1⟩ := hX
    go_wp2_with fail
    go_region_held3 (fun w' => S4P X w.heap.size (a1_0, a1_1) w') (repeat' (first | with_reducible assumption | with_reducible refine S4P.drew ?_ | with_reducible refine S4P.drewN ?_ _)) (first | (go_at_call 19; refine (HT.out _ (S4P.bel (b := w.heap.size) (r := (a1_0, a1_1)) (by assumption))).mono ?_; rintro e w' ⟨r, rfl, hr, bC⟩; have hSC := S4P.call HPX.out (by assumption) bC) | (go_at_call 15; refine (toPoint_any _ _ _).mono ?_; rintro e w' ⟨rfl, gg⟩; have hSG := S4P.call HPX.out (by assumption) gg.below; try (have hr' := FS.below hr gg.below)) | (go_at_call 40; refine (HS.out _ _ _ hr').mono ?_; rintro e w' ⟨rfl, bS⟩; have hSS := S4P.call HPX.out (by assumption) bS) | (go_at_call 40; refine (HS.out _ _ _ hr).mono ?_; rintro e w' ⟨rfl, bS⟩; have hSS := S4P.call HPX.out (by assumption) bS) | (fail))
    all_goals
      have B2 := S4P.bel hSS
      go_wp2_with fail
      refine (HT.out _ B2).mono ?_
      rintro e v3 ⟨r3, rfl, hx0, b3⟩
      have B3 := bel2 B2 b3
      obtain ⟨d0, d1⟩ := P2.below HPX.out B3
      go_wp2_with fail
      refine (toPoint_any _ _ _).mono ?_
      rintro e v4 ⟨rfl, g4⟩
      have B4 := bel2 B3 g4.below
      have hx1 := FS.below hx0 g4.below
      go_wp2_with fail
      refine (HI.out _ _ _ hx1).mono ?_
      rintro e v5 ⟨rfl, b5⟩
      have B5 := bel2 B4 b5
      have hx2 := FS.below hx1 b5
      go_wp2_with fail
      refine (HT.out _ B5).mono ?_
      rintro e v6 ⟨r6, rfl, ht2, b6⟩
      have B6 := bel2 B5 b6
      have hx3 := FS.below hx2 b6
      go_wp2_with fail
      refine (eqPointS_same _ _ _ _ _ _ _ hx3 ht2).mono ?_
      rintro e v7 ⟨rfl, b7⟩
      have B7 := bel2 B6 b7
      go_wp2
      go_ret
      exact ⟨rfl, bel2 HBX.out B7⟩
  · go_enter Try.func13, Try.ntmps13
    go_wp2_with fail
    refine (szPointS_any _ _ _ _ 1048576 (by omega) (by omega)).mono ?_
    rintro e w' ⟨rfl, rfl⟩
    rw [if_pos (show 1048576 - (l0.length : Int) < 0 by omega)]
    go_wp2
    go_ret
    exact ⟨rfl, hbX⟩
end Go.Proofs.Ytmkijfkkfhhjjaa.fnExactWidthIn
