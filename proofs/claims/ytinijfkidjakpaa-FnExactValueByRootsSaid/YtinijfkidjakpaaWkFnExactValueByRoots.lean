/-
  ValueByRoots answers as its model at every list and every integer, and leaves the list as it was.
  No condition: every slice of integers (nil and too long ones too) and every integer.
-/
import Derived.Test.YtinijfkidjakpaaRows
import Derived.WalkKit
import Derived.ProofKit
import Derived.OpenShut
import Derived.ShutString
import Derived.Below
import Derived.Carry
import Derived.Lib.SmallJoins
import Derived.SizedLaws
import Derived.Test.YtinijfkidjakpaaValueD
namespace Go.Proofs.Ytinijfkidjakpaa.fnExactValueByRoots
set_option linter.unusedSimpArgs false
set_option linter.unusedVariables false
open Go.ChangeShapes Go.WideShapes Go.ChangeAt Go.RowKit
open Go.ChangeMaps (open_string shut_string)
set_option linter.unusedVariables false
theorem walk (a0 : Option Addr) (len0 cap0 : Nat) (z0 : List Int) (a1 : Int) (w : World) (w0 : IsRow .i64 w a0 len0 cap0 z0) (w1 : (Lit.int .i64 a1).wf = true) :
    Calls Try.prog 7 #[.slice a0 len0 cap0, .int .i64 a1] w fun e w' => e = .returned (.bool true) ∧ Below w.heap.size w w' := by
  obtain ⟨hR0, hn0⟩ := RD.of_row w0
  obtain ⟨p0, hp0⟩ : ∃ p, z0.take len0 = p := ⟨_, rfl⟩
  rw [hp0] at hR0 hn0
  have HN0 := Lib.hid hn0
  clear hn0 hp0
  by_cases hb0 : len0 ≤ 1048576
  · have HM0 := Lib.hid (show p0.length ≤ 1048576 by rw [HN0.out]; exact hb0)
    obtain ⟨V, hV⟩ : ∃ V, V = vrR p0 a1 := ⟨_, rfl⟩
    have hsp : ∀ (W : World) (B : Nat) (r : Value), IS W B r p0 → Calls Try.prog 29 #[r, .int .i64 a1] W fun e w' => GivesF V.2.1 V.2.2 V.1 W e w' := fun W B r h => by rw [hV]; exact specValueByRoots_any W B r p0 a1 h
    have him : ∀ (W : World) (B : Nat) (r : Value), IS W B r p0 → Calls Try.prog 30 #[r, .int .i64 a1] W fun e w' => GivesF V.2.1 V.2.2 V.1 W e w' := fun W B r h => by rw [hV]; exact implValueByRoots_any W B r p0 a1 h
    obtain ⟨m, N, D⟩ := V
    dsimp only at hsp him
    have HSP := Lib.hid hsp
    have HIM := Lib.hid him
    clear hsp him hV
    go_enter Try.func7, Try.ntmps7
    go_wp2_with fail
    refine (toIntS_any _ _ _ _ p0 HN0.out.symm hR0 HM0.out).mono ?_
    rintro e v1 ⟨r1, rfl, ht1, b1⟩
    have B1 := b1
    go_wp2_with fail
    refine (HSP.out _ _ _ ht1).mono ?_
    rintro e v2 ⟨rfl, b2⟩
    have B2 := bel2 B1 b2
    obtain ⟨U, hU⟩ : ∃ U, U = v2.alloc (.cells #[.int .i64 N, .int .i64 D] 38) := ⟨_, rfl⟩
    have B2a : Below w.heap.size w U := by rw [hU]; exact B2.alloc B2.size _
    have H5 : F2 U v2.heap.size N D := by rw [hU]; exact F2.new _ _ _
    have HU := Lib.hid hU
    clear hU
    go_wp2_with fail
    try rw [← HU.out]
    refine (toIntS_any _ _ _ _ p0 HN0.out.symm (hR0.below B2a) HM0.out).mono ?_
    rintro e v3 ⟨r3, rfl, hx0, b3⟩
    have B3 := bel2 B2a b3
    have H53 := H5.below b3
    go_wp2_with fail
    refine (HIM.out _ _ _ hx0).mono ?_
    rintro e v5 ⟨rfl, b5⟩
    have B5 := bel2 B3 b5
    have hx5 := hx0.below b5
    obtain ⟨d0, d1, -, -⟩ := H53.below b5
    have hl5 := cell_lt d0
    go_wp2_with fail
    refine (eqFrac_same _ _ _).mono ?_
    rintro e v6 ⟨rfl, b6⟩
    have B6 := bel2 (B5.alloc B5.size _) b6
    have hx6 := (hx5.alloc _).below b6
    go_wp2_with fail
    refine (toIntS_any _ _ _ _ p0 HN0.out.symm (hR0.below B6) HM0.out).mono ?_
    rintro e v7 ⟨r7, rfl, ht2, b7⟩
    have B7 := bel2 B6 b7
    go_wp2_with fail
    refine (eqIntS_any _ _ _ _ _ _ _ (hx6.below b7) ht2).mono ?_
    rintro e w' ⟨rfl, n1, rfl⟩
    go_wp2
    go_ret
    exact ⟨rfl, belN B7 n1⟩
  · go_enter Try.func7, Try.ntmps7
    go_wp2
    go_ret
    exact ⟨rfl, Below.refl _ _⟩
end Go.Proofs.Ytinijfkidjakpaa.fnExactValueByRoots
