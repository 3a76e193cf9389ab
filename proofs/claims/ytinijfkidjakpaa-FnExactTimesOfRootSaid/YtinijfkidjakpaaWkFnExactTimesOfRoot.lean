/-
  TimesOfRoot answers as its model at every list and every pair of integers, and leaves the list as it was.
  No condition: every slice of integers (nil and too long ones too) and every two integers.
-/
import Derived.Test.YtinijfkidjakpaaRows
import Derived.WalkKit
import Derived.ProofKit
import Derived.OpenShut
import Derived.ShutString
import Derived.Below
import Derived.Carry
import Derived.Lib.SmallJoins
import Derived.SizedLaws
import Derived.Test.YtinijfkidjakpaaRootsB
import Derived.Deep.RegionHeld3
import Derived.Deep.DeepCutAuto
namespace Go.Proofs.Ytinijfkidjakpaa.fnExactTimesOfRoot
set_option linter.unusedSimpArgs false
set_option linter.unusedVariables false
open Go.ChangeShapes Go.WideShapes Go.ChangeAt Go.RowKit
open Go.ChangeMaps (open_string shut_string)
set_option linter.unusedVariables false
/-- The box of the fraction, and the slice that came in. -/
abbrev SB (w' : World) (g : Nat) (a b : Int) (A : Option Addr) (p : List Int) : Prop := w'.cell? ⟨g, 0, none⟩ = some (.int .i64 a) ∧ w'.cell? ⟨g, 1, none⟩ = some (.int .i64 b) ∧ RD w' A p
theorem SB.drew {w : World} {g : Nat} {a b : Int} {A : Option Addr} {p : List Int} (h : SB w g a b A p) : SB w.drew g a b A p := h
theorem SB.below {w w' : World} {g : Nat} {a b : Int} {A : Option Addr} {p : List Int} (h : SB w g a b A p) (hb : Below w.heap.size w w') : SB w' g a b A p := by
  obtain ⟨h1, h2, h3⟩ := h
  exact ⟨(cellAt hb g 0 (cell_lt h1)).trans h1, (cellAt hb g 1 (cell_lt h1)).trans h2, h3.below hb⟩
theorem SB.new (w : World) (a b : Int) (T : TypeId) {A : Option Addr} {p : List Int} (h : RD w A p) : SB (w.alloc (.cells #[.int .i64 a, .int .i64 b] T)) w.heap.size a b A p := by
  obtain ⟨h1, h2⟩ := S2.new w a b T
  exact ⟨h1, h2, h.below ((Below.refl _ _).alloc (Nat.le_refl _) _)⟩

theorem walk (a0 : Option Addr) (len0 cap0 : Nat) (z0 : List Int) (a1_0 : Int) (a1_1 : Int) (w : World) (w0 : IsRow .i64 w a0 len0 cap0 z0) (w1_0 : (Lit.int .i64 a1_0).wf = true) (w1_1 : (Lit.int .i64 a1_1).wf = true) :
    Calls Try.prog 5 #[.slice a0 len0 cap0, .agg #[.int .i64 a1_0, .int .i64 a1_1]] w fun e w' => e = .returned (.bool true) ∧ Below w.heap.size w w' := by
  obtain ⟨hR0, hn0⟩ := RD.of_row w0
  obtain ⟨p0, hp0⟩ : ∃ p, z0.take len0 = p := ⟨_, rfl⟩
  rw [hp0] at hR0 hn0
  have HN0 := Lib.hid hn0
  clear hn0 hp0
  by_cases hb0 : len0 ≤ 1048576
  · have HM0 := Lib.hid (show p0.length ≤ 1048576 by rw [HN0.out]; exact hb0)
    have hS := SB.new w a1_0 a1_1 35 hR0
    have b00 : Below w.heap.size w (w.alloc (.cells #[.int .i64 a1_0, .int .i64 a1_1] 35)) := (Below.refl _ _).alloc (Nat.le_refl _) _
    go_enter Try.func5, Try.ntmps5
    go_upto_region 3 with fail
    go_cut [3, 5, 6] (fun q x y wx => q = .pointer (some ⟨w.heap.size, 0, none⟩) ∧ x = .int .i64 (tmR p0 a1_0 a1_1) ∧ y = .bool (tmB p0 a1_0 a1_1) ∧ SB wx w.heap.size a1_0 a1_1 a0 p0 ∧ Below w.heap.size w wx)
    case first =>
      go_region_held3 (fun w' => w'.cell? ⟨w.heap.size, 0, none⟩ = some (.int .i64 a1_0) ∧ w'.cell? ⟨w.heap.size, 1, none⟩ = some (.int .i64 a1_1) ∧ RD w' a0 p0) (repeat' (first | with_reducible assumption | with_reducible refine SB.drew ?_ | with_reducible refine SB.below ?_ b2 | with_reducible refine SB.below ?_ b1 | with_reducible refine SB.below ?_ bF)) (first | (go_at_call 13; refine (toIntS_any _ _ _ _ p0 HN0.out.symm (by first | (rename_i hX; exact hX.2.2) | exact hS.2.2) HM0.out).mono ?_; rintro e v1 ⟨r1, rfl, ht, b1⟩; have k1 := cellAt b1) | (go_at_call 24; refine (toFrac_b _ _ _).mono ?_; rintro e x1 ⟨rfl, bF⟩; have kF := cellAt bF; (first | (have htF := IS.below ht bF) | skip)) | (go_at_call 23; refine (specTimesOfRoot_any _ _ _ _ _ _ (by first | exact htF | exact ht)).mono ?_; rintro e x2 ⟨rfl, b2⟩; have k2 := cellAt b2))
      all_goals go_wp2_with fail
      all_goals go_meet
      all_goals
        refine ⟨rfl, rfl, rfl, by assumption, ?_⟩
        first
        | exact bel2 (bel2 (bel2 b00.drew b1) bF) b2
        | exact bel2 (bel2 (bel2 b00.drew bF) b1) b2
    case rest =>
      obtain ⟨rfl, rfl, rfl, hS1, B1⟩ := hcut
      go_wp2_with fail
      refine (toIntS_any _ _ _ _ p0 HN0.out.symm hS1.2.2 HM0.out).mono ?_
      rintro e v3 ⟨r3, rfl, hx0, b3⟩
      have B3 := bel2 B1 b3
      obtain ⟨c0, c1, -⟩ := hS1.below b3
      go_wp2_with fail
      refine (toFrac_b _ _ _).mono ?_
      rintro e v4 ⟨rfl, b4⟩
      have B4 := bel2 B3 b4
      go_wp2_with fail
      refine (implTimesOfRoot_any _ _ _ _ _ _ (hx0.below b4)).mono ?_
      rintro e v5 ⟨rfl, b5⟩
      have B5 := bel2 B4 b5
      have hx5 := (hx0.below b4).below b5
      go_wp2_with fail
      refine (toIntS_any _ _ _ _ p0 HN0.out.symm (hR0.below B5) HM0.out).mono ?_
      rintro e v6 ⟨r6, rfl, ht2, b6⟩
      have B6 := bel2 B5 b6
      go_wp2_with fail
      refine (eqIntS_any _ _ _ _ _ _ _ (hx5.below b6) ht2).mono ?_
      rintro e w' ⟨rfl, n1, rfl⟩
      go_wp2
      go_ret
      exact ⟨rfl, belN B6 n1⟩
  · go_enter Try.func5, Try.ntmps5
    go_wp2
    go_ret
    exact ⟨rfl, (Below.refl _ _).alloc (Nat.le_refl _) _⟩
end Go.Proofs.Ytinijfkidjakpaa.fnExactTimesOfRoot
