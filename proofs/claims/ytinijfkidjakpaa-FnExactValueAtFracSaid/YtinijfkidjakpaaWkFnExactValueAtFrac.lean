/-
  ValueAtFrac answers as its model at every list and every pair of integers, and leaves the list as it was.
  No condition: every slice of integers (nil and too long ones too) and every two integers.
-/
import Derived.Test.YtinijfkidjakpaaRows
import Derived.WalkKit
import Derived.ProofKit
import Derived.OpenShut
import Derived.ShutString
import Derived.Below
import Derived.Carry
import Derived.Lib.SmallJoins
import Derived.SizedLaws
import Derived.Test.YtinijfkidjakpaaValueB
import Derived.Deep.RegionHeld3
import Derived.Deep.DeepCutAuto
namespace Go.Proofs.Ytinijfkidjakpaa.fnExactValueAtFrac
set_option linter.unusedSimpArgs false
set_option linter.unusedVariables false
open Go.ChangeShapes Go.WideShapes Go.ChangeAt Go.RowKit
open Go.ChangeMaps (open_string shut_string)
set_option linter.unusedVariables false
/-- The box of the fraction, and the slice that came in. -/
abbrev SB (w' : World) (g : Nat) (a b : Int) (A : Option Addr) (p : List Int) : Prop := w'.cell? ⟨g, 0, none⟩ = some (.int .i64 a) ∧ w'.cell? ⟨g, 1, none⟩ = some (.int .i64 b) ∧ RD w' A p
section
variable {w w' : World} {g : Nat} {a b : Int} {A : Option Addr} {p : List Int}
theorem SB.drew (h : SB w g a b A p) : SB w.drew g a b A p := h
theorem SB.below (h : SB w g a b A p) (hb : Below w.heap.size w w') : SB w' g a b A p := by
  obtain ⟨h1, h2, h3⟩ := h
  exact ⟨(cellAt hb g 0 (cell_lt h1)).trans h1, (cellAt hb g 1 (cell_lt h1)).trans h2, h3.below hb⟩
theorem SB.alloc (h : SB w g a b A p) (o : Obj) : SB (w.alloc o) g a b A p := h.below ((Below.refl _ _).alloc (Nat.le_refl _) o)
theorem SB.new (w : World) (a b : Int) (T : TypeId) {A : Option Addr} {p : List Int} (h : RD w A p) : SB (w.alloc (.cells #[.int .i64 a, .int .i64 b] T)) w.heap.size a b A p := by
  obtain ⟨h1, h2⟩ := S2.new w a b T
  exact ⟨h1, h2, h.below ((Below.refl _ _).alloc (Nat.le_refl _) _)⟩
/-- A store into a block behind the box and the slice. -/
theorem SB.setN {w0 : World} (h : SB w g a b A p) (h0 : SB w0 g a b A p) (k : Nat) (hk : w0.heap.size ≤ k) (i : Nat) (u : Value) : SB (w.setCell ⟨k, i, none⟩ u) g a b A p := by
  have hg : g < w0.heap.size := cell_lt h0.1
  obtain ⟨k1, k2, k3⟩ := h
  have far : ∀ (y : Addr), y.block < k → (w.setCell ⟨k, i, none⟩ u).cell? y = w.cell? y := fun y hy => World.cell?_setCell_other _ _ _ _ (fun e => by rw [← e] at hy; exact Nat.lt_irrefl _ hy)
  refine ⟨(far ⟨g, 0, none⟩ (show g < k by omega)).trans k1, (far ⟨g, 1, none⟩ (show g < k by omega)).trans k2, fun j hj => ?_⟩
  obtain ⟨ad, e1, e2, e3⟩ := k3 j hj
  obtain ⟨ad', e1', e2', -⟩ := h0.2.2 j hj
  rw [e1] at e1'
  cases e1'
  refine ⟨ad, e1, by simpa using e2, ?_⟩
  rw [far (ad.add j) (by have : (ad.add j).block = ad.block := by unfold Addr.add; split <;> rfl
                         omega)]
  exact e3
end

theorem walk (a0 : Option Addr) (len0 cap0 : Nat) (z0 : List Int) (a1_0 : Int) (a1_1 : Int) (w : World) (w0 : IsRow .i64 w a0 len0 cap0 z0) (w1_0 : (Lit.int .i64 a1_0).wf = true) (w1_1 : (Lit.int .i64 a1_1).wf = true) :
    Calls Try.prog 6 #[.slice a0 len0 cap0, .agg #[.int .i64 a1_0, .int .i64 a1_1]] w fun e w' => e = .returned (.bool true) ∧ Below w.heap.size w w' := by
  obtain ⟨hR0, hn0⟩ := RD.of_row w0
  obtain ⟨p0, hp0⟩ : ∃ p, z0.take len0 = p := ⟨_, rfl⟩
  rw [hp0] at hR0 hn0
  have HN0 := Lib.hid hn0
  clear hn0 hp0
  by_cases hb0 : len0 ≤ 1048576
  · have HM0 := Lib.hid (show p0.length ≤ 1048576 by rw [HN0.out]; exact hb0)
    obtain ⟨W0, hW⟩ : ∃ W, W = w.alloc (.cells #[.int .i64 a1_0, .int .i64 a1_1] 35) := ⟨_, rfl⟩
    have hS := SB.new w a1_0 a1_1 35 hR0
    have b00 : Below w.heap.size w W0 := by rw [hW]; exact (Below.refl _ _).alloc (Nat.le_refl _) _
    rw [← hW] at hS
    have HW := Lib.hid hW
    have HS := Lib.hid hS
    clear hW
    obtain ⟨V, hV⟩ : ∃ V, V = vaR p0 a1_0 a1_1 := ⟨_, rfl⟩
    have HV := Lib.hid hV
    have hsp : ∀ (W : World) (B : Nat) (r : Value), IS W B r p0 → Calls Try.prog 26 #[r, fracV a1_0 a1_1] W fun e w' => GivesF V.2.1 V.2.2 V.1 W e w' := fun W B r h => by rw [hV]; exact specValueAtFrac_any W B r p0 a1_0 a1_1 h
    have him : ∀ (W : World) (B : Nat) (r : Value), IS W B r p0 → Calls Try.prog 27 #[r, fracV a1_0 a1_1] W fun e w' => GivesF V.2.1 V.2.2 V.1 W e w' := fun W B r h => by rw [hV]; exact implValueAtFrac_any W B r p0 a1_0 a1_1 h
    obtain ⟨m, N, D⟩ := V
    dsimp only at hsp him
    have HSP := Lib.hid hsp
    have HIM := Lib.hid him
    clear hsp him hV
    go_enter Try.func6, Try.ntmps6
    go_upto_region 3 with fail
    rw [← HW.out]
    go_cut [3, 5, 6] (fun q p y wx => q = .pointer (some ⟨w.heap.size, 0, none⟩) ∧ ∃ h, p = .pointer (some ⟨h, 0, none⟩) ∧ y = .bool m ∧ F2 wx h N D ∧ SB wx w.heap.size a1_0 a1_1 a0 p0 ∧ Below W0.heap.size W0 wx)
    case first =>
      go_region_held3 (fun w' => w'.cell? ⟨w.heap.size, 0, none⟩ = some (.int .i64 a1_0) ∧ w'.cell? ⟨w.heap.size, 1, none⟩ = some (.int .i64 a1_1) ∧ RD w' a0 p0) (repeat' (first | with_reducible assumption | with_reducible refine SB.drew ?_ | with_reducible refine SB.below ?_ b2 | with_reducible refine SB.below ?_ b1 | with_reducible refine SB.below ?_ bF | with_reducible refine SB.alloc ?_ _ | with_reducible refine SB.setN ?_ HS.out _ (by first | omega | (simp; omega)) _ _)) (first | (go_at_call 13; refine (toIntS_any _ _ _ _ p0 HN0.out.symm (by first | (rename_i hX; exact hX.2.2) | exact hS.2.2 | exact hS.drew.2.2 | (exact (SB.alloc hS _).2.2) | (exact (SB.alloc hS _).drew.2.2)) HM0.out).mono ?_; rintro e v1 ⟨r1, rfl, ht, b1⟩; have k1 := cellAt b1; have l1 := frozenAt b1; have s1 : W0.heap.size ≤ v1.heap.size := (by have := b1.size; (try simp at this); omega); (first | have y1 : W0.heap.size < v1.heap.size := (by have := b1.size; (try simp at this); omega) | skip); (first | have y2 : x1.heap.size < v1.heap.size := (by have := b1.size; simp at this; omega) | skip)) | (go_at_call 24; refine (toFrac_b _ _ _).mono ?_; rintro e x1 ⟨rfl, bF⟩; have kF := cellAt bF; have lF := frozenAt bF; have sF : W0.heap.size ≤ x1.heap.size := (by have := bF.size; (try simp at this); omega); (first | have yF : W0.heap.size < x1.heap.size := (by have := bF.size; (try simp at this); omega) | skip); (first | have y3 : v1.heap.size < x1.heap.size := (by have := bF.size; simp at this; omega) | skip); (first | have htF := IS.below ht bF | have htF := IS.below (IS.alloc ht _) bF | skip)) | (go_at_call 26; refine (HSP.out _ _ _ (by first | exact htF | exact ht | exact IS.alloc htF _ | exact IS.alloc ht _)).mono ?_; rintro e x2 ⟨rfl, b2⟩; have k2 := cellAt b2; have l2 := frozenAt b2))
      all_goals go_wp2_with fail
      all_goals go_meet
      all_goals
        have sX : W0.heap.size ≤ x2.heap.size := by have := b2.size; (try simp at this); omega
        refine ⟨rfl, _, rfl, rfl, ?_, by assumption, ?_⟩
        · first
          | with_reducible exact F2.new _ _ _
          | (with_reducible refine F2.store (F2.below (a := 0) (b := 0) ?_ b2) _ _
             repeat' (first | with_reducible exact F2.new _ _ _ | with_reducible refine F2.drew ?_ | with_reducible refine F2.below ?_ b1 | with_reducible refine F2.below ?_ bF))
        · repeat' (first | with_reducible exact Below.refl _ _ | with_reducible refine Below.setCell ?_ ?_ _ | with_reducible refine Below.alloc ?_ ?_ _ | with_reducible refine bel2 ?_ b2 | with_reducible refine bel2 ?_ b1 | with_reducible refine bel2 ?_ bF | with_reducible refine Below.drew ?_ | omega | exact Nat.le_refl _ | (show W0.heap.size ≤ _; dsimp only; omega))
    case rest =>
      obtain ⟨rfl, h, rfl, rfl, H5, hS1, B1⟩ := hcut
      have B1w := bel2 b00 B1
      go_wp2_with fail
      refine (toIntS_any _ _ _ _ p0 HN0.out.symm hS1.2.2 HM0.out).mono ?_
      rintro e v3 ⟨r3, rfl, hx0, b3⟩
      have B3 := bel2 B1w b3
      have H53 := H5.below b3
      obtain ⟨c0, c1, -⟩ := hS1.below b3
      go_wp2_with fail
      refine (toFrac_b _ _ _).mono ?_
      rintro e v4 ⟨rfl, b4⟩
      have B4 := bel2 B3 b4
      have H54 := H53.below b4
      go_wp2_with fail
      refine (HIM.out _ _ _ (hx0.below b4)).mono ?_
      rintro e v5 ⟨rfl, b5⟩
      have B5 := bel2 B4 b5
      have hx5 := (hx0.below b4).below b5
      have H55 := H54.below b5
      obtain ⟨d0, d1, -, -⟩ := H55
      have hl5 := cell_lt d0
      clear c0 c1
      go_wp2_with fail
      refine (eqFrac_same _ _ _).mono ?_
      rintro e v6 ⟨rfl, b6⟩
      have B6 := bel2 (B5.alloc B5.size _) b6
      have hx6 := (hx5.alloc _).below b6
      go_wp2_with fail
      refine (toIntS_any _ _ _ _ p0 HN0.out.symm (hR0.below B6) HM0.out).mono ?_
      rintro e v7 ⟨r7, rfl, ht2, b7⟩
      have B7 := bel2 B6 b7
      go_wp2_with fail
      refine (eqIntS_any _ _ _ _ _ _ _ (hx6.below b7) ht2).mono ?_
      rintro e w' ⟨rfl, n1, rfl⟩
      go_wp2
      go_ret
      exact ⟨rfl, belN B7 n1⟩
  · go_enter Try.func6, Try.ntmps6
    go_wp2
    go_ret
    exact ⟨rfl, (Below.refl _ _).alloc (Nat.le_refl _) _⟩
end Go.Proofs.Ytinijfkidjakpaa.fnExactValueAtFrac
