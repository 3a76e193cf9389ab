/-
  Values at fractions and by roots, in the program and in the model: what each call returns.
  Conditions: the slice reads as the list that is named, a polynomial where it says so.
-/
import Derived.Test.YtklcildhfcomnaaGreatDoorRootsB
import Derived.RangeFuncBox
namespace Go.Proofs.YtklcildhfcomnaaGreatDoor
set_option linter.unusedSimpArgs false
set_option linter.unusedVariables false
open Go.ChangeShapes Go.WideShapes Go.ChangeAt Go.RowKit

theorem grown_set (w : World) (g i : Nat) (u : Value) : w.grownBy (w.setCell ⟨g, i, none⟩ u) (some g) :=
  ⟨rfl, rfl, rfl, by simp, fun k _ hk => Below.heap_setCell _ _ _ k (fun e => hk (by rw [e]))⟩
theorem grown_bel {w w' : World} (h : Below w.heap.size w w') (row : Option Nat) : w.grownBy w' row := ⟨h.os, h.tape, h.output, h.size, fun k hk _ => h.block k hk⟩
theorem F2.grown {w w' : World} {g : Nat} {a b : Int} {row : Option Nat} (h : F2 w g a b) (hg : w.grownBy w' row) (hn : some g ≠ row) : F2 w' g a b := by
  have hl := cell_lt h.1
  have hk : w'.heap[g]? = w.heap[g]? := hg.block g hl hn
  obtain ⟨h1, h2, h3, h4⟩ := h
  exact ⟨hg.cell h1 hn, hg.cell h2 hn, (World.frozen?_of_block (a := ⟨g, 0, none⟩) hk).trans h3, (World.frozen?_of_block (a := ⟨g, 1, none⟩) hk).trans h4⟩
theorem some_ne {a b : Nat} (h : a ≠ b) : some a ≠ some b := fun e => h (Option.some.inj e)
/-- A fraction's variable is written; nothing else. -/
theorem grown_two {w0 w : World} {g : Nat} (h : w0.grownBy w (some g)) (u v : Value) : w0.grownBy ((w.setCell ⟨g, 0, none⟩ u).setCell ⟨g, 1, none⟩ v) (some g) := Lib.grownBy_trans (Lib.grownBy_trans h (grown_set _ _ _ _)) (grown_set _ _ _ _)
theorem bel_var {B : Nat} {w0 w w' : World} {g : Nat} (h : Below B w0 w) (hg : w.grownBy w' (some g)) (h1 : B ≤ g) (h2 : B ≤ w.heap.size) : Below B w0 w' := h.grown hg h2 fun k hk => by cases hk; exact h1
set_option maxHeartbeats 1000000 in
set_option maxRecDepth 100000 in
theorem addTimes_any (s t k a b : Int) (w : World) (hs : frB s t = true) (hk : Lim k) (hf : frB a b = true) : Calls Tryz.prog 45 #[fracV s t, .int .i64 k, fracV a b] w fun e w' => GivesF (adN s t k a b) (adD s t k a b) (adB s t k a b) w e w' := by
  have hk1 := frB_one hk
  have hM : ∀ W, Calls Tryz.prog 80 #[fracV k 1, fracV a b] W fun e w' => GivesF (mkN (k * a) (1 * b)) (mkD (k * a) (1 * b)) (mkB (k * a) (1 * b)) W e w' := fun W => by
    refine (implMultiplyFracs_any k 1 a b W).mono fun e w' h => ?_
    unfold GivesOp okF twoB at h
    rw [hk1, hf] at h
    exact h
  obtain ⟨W, hW⟩ : ∃ W, W = ((w.alloc (.cells #[.int .i64 s, .int .i64 t] 35)).alloc (.cells #[.int .i64 a, .int .i64 b] 35)).alloc (.cells #[.int .i64 0, .int .i64 0] 35) := ⟨_, rfl⟩
  obtain ⟨h3, h5, h6⟩ := box3 w s t a b
  rw [← hW] at h3 h5 h6
  have hb : Below w.heap.size w W := by rw [hW]; go_grown
  have HW := Lib.hid hW
  have HM := Lib.hid hM
  have hS : SP W (w.heap.size + 1) 0 1 a b := ⟨h5.1, h5.2.1⟩
  have hg5 := cell_lt h5.1
  clear hW hM h5
  have hA1 : ∀ (X Y : Int) (W : World), mkB (k * a) (1 * b) = true → X = mkN (k * a) (1 * b) → Y = mkD (k * a) (1 * b) → Calls Tryz.prog 81 #[fracV s t, fracV X Y] W fun e w' => GivesF (adN s t k a b) (adD s t k a b) (adB s t k a b) W e w' := fun X Y W hm hX hY => by
    have hv := (mk_parts hm).2.1
    refine (implAddFracs_any s t X Y W).mono fun e w' h => ?_
    unfold GivesOp okF twoB at h
    subst hX hY
    rw [hs, hv] at h
    unfold adN adD adB okF
    rw [hm]
    exact h
  have HA1 := Lib.hid hA1
  have HA0 := Lib.hid (fun hm : mkB (k * a) (1 * b) = false => And.intro (show adB s t k a b = false by unfold adB; rw [hm]; rfl) (ad_no (show adB s t k a b = false by unfold adB; rw [hm]; rfl)))
  obtain ⟨X, hX⟩ : ∃ X, X = mkN (k * a) (1 * b) := ⟨_, rfl⟩
  obtain ⟨Y, hY⟩ : ∃ Y, Y = mkD (k * a) (1 * b) := ⟨_, rfl⟩
  obtain ⟨m, hm⟩ : ∃ m, m = mkB (k * a) (1 * b) := ⟨_, rfl⟩
  rw [← hX, ← hY, ← hm] at HM
  have HX := Lib.hid hX
  have HY := Lib.hid hY
  have HV := Lib.hid hm
  have H3 := Lib.hid h3
  have H6 := Lib.hid h6
  clear hA1 hX hY hm h3 h6
  go_enter Tryz.func45, Tryz.ntmps45
  go_upto_region 1 with fail
  rw [← HW.out]
  go_cut [8, 9] (fun p q wx => ∃ g, p = .pointer (some ⟨g, 0, none⟩) ∧ q = .bool m ∧ F2 wx g X Y ∧ Below W.heap.size W wx)
  case first =>
    go_region_held3 (fun w' => w'.cell? ⟨w.heap.size + 1, 0, none⟩ = some (.int .i64 a) ∧ w'.cell? ⟨w.heap.size + 1, 1, none⟩ = some (.int .i64 b)) (repeat' (first | with_reducible assumption | with_reducible refine SP.below ?_ b2 | with_reducible refine SP.below ?_ b1 | with_reducible refine SP.drew ?_ | with_reducible refine SP.drewN ?_ _ | with_reducible refine SP.setAt ?_ ?_ _ _ | with_reducible refine SP.setN ?_ _ (by first | omega | (simp; omega)) _ _ | with_reducible refine SP.alloc ?_ _)) (first | (go_at_call 44; refine (wholeFrac_any _ _).mono ?_; rintro e w1 ⟨rfl, b1⟩; have k1 := cellAt b1; have k2 := frozenAt b1; first | have z1 : W.heap.size < w1.heap.size := (by have := b1.size; simp at this; omega) | skip) | (go_at_call 80; refine (HM.out _).mono ?_; rintro e w2 ⟨rfl, b2⟩; have k3 := cellAt b2; have k4 := frozenAt b2))
    all_goals go_wp2_with fail
    all_goals go_meet
    all_goals
      have hs1 : W.heap.size ≤ w1.heap.size := by have := b1.size; simp at this; omega
      have hs2 : W.heap.size ≤ w2.heap.size := by have := b2.size; (try simp at this); omega
      first
      | exact ⟨_, rfl, rfl, (((F2.new W 0 0).drew.below b1).below b2).store _ _, ((bel2 (bel2 (((Below.refl W.heap.size W).alloc (Nat.le_refl _) _).drew) b1) b2).setCell (Nat.le_refl _) _).setCell (Nat.le_refl _) _⟩
      | exact ⟨_, rfl, rfl, ((F2.new w1 0 0).below b2).store _ _, ((bel2 ((bel2 (Below.refl W.heap.size W).drew b1).alloc hs1 _) b2).setCell hs1 _).setCell hs1 _⟩
      | exact ⟨_, rfl, rfl, F2.new _ _ _, (bel2 (bel2 (Below.refl W.heap.size W).drew b1) b2).alloc hs2 _⟩
  case rest =>
    obtain ⟨g, rfl, rfl, ⟨d0, d1, -, -⟩, b0⟩ := hcut
    have B0 := bel2 hb b0
    have hw6 : w.heap.size ≤ w.heap.size + 2 := by omega
    obtain ⟨c0, c1, f0, f1⟩ := H6.out.below b0
    cases m
    · go_wp2_with fail
      refine bodyPost_ret ((F2.store ⟨c0, c1, f0, f1⟩ _ _).results rfl rfl rfl) rfl ?_
      obtain ⟨e0, e1, e2⟩ := HA0.out HV.out.symm
      rw [e0, e1, e2]
      exact ⟨rfl, (B0.setCell hw6 _).setCell hw6 _⟩
    · obtain ⟨a0, a1, -, -⟩ := H3.out.below b0
      go_wp2_with fail
      refine (HA1.out X Y _ HV.out.symm HX.out HY.out).mono ?_
      rintro e w2 ⟨rfl, b2⟩
      obtain ⟨c0, c1, f0, f1⟩ := (H6.out.below b0).below b2
      go_wp2_with fail
      refine bodyPost_ret ((F2.store ⟨c0, c1, f0, f1⟩ _ _).results rfl rfl rfl) rfl ?_
      exact ⟨rfl, ((bel2 B0 b2).setCell hw6 _).setCell hw6 _⟩
/-- A cell of a slice, and a fraction's box. -/
abbrev ST (w' : World) (g e : Nat) (x : Int) (h : Nat) (a b : Int) : Prop := w'.cell? ⟨g, e, none⟩ = some (.int .i64 x) ∧ w'.cell? ⟨h, 0, none⟩ = some (.int .i64 a) ∧ w'.cell? ⟨h, 1, none⟩ = some (.int .i64 b)
section
variable {w w' : World} {g e : Nat} {x : Int} {h : Nat} {a b : Int}
theorem ST.drew (H : ST w g e x h a b) : ST w.drew g e x h a b := H
theorem ST.drewN (H : ST w g e x h a b) (n : Nat) : ST (w.drewN n) g e x h a b := H
theorem ST.below (H : ST w g e x h a b) (hb : Below w.heap.size w w') : ST w' g e x h a b := by
  obtain ⟨h1, h2, h3⟩ := H
  exact ⟨(cellAt hb g e (cell_lt h1)).trans h1, (cellAt hb h 0 (cell_lt h2)).trans h2, (cellAt hb h 1 (cell_lt h3)).trans h3⟩
theorem ST.alloc (H : ST w g e x h a b) (o : Obj) : ST (w.alloc o) g e x h a b := H.below ((Below.refl _ _).alloc (Nat.le_refl _) o)
theorem ST.setN (H : ST w g e x h a b) (k : Nat) (hg : g < k) (hh : h < k) (i : Nat) (u : Value) : ST (w.setCell ⟨k, i, none⟩ u) g e x h a b := by
  obtain ⟨k1, k2, k3⟩ := H
  have far : ∀ (y : Addr), y.block < k → (w.setCell ⟨k, i, none⟩ u).cell? y = w.cell? y := fun y hy => World.cell?_setCell_other _ _ _ _ (fun e => by rw [← e] at hy; exact Nat.lt_irrefl _ hy)
  exact ⟨(far ⟨g, e, none⟩ hg).trans k1, (far ⟨h, 0, none⟩ hh).trans k2, (far ⟨h, 1, none⟩ hh).trans k3⟩
theorem ST.setAt {w1 : World} (H : ST w g e x h a b) (H1 : ST w1 g e x h a b) (i : Nat) (u : Value) : ST (w.setCell ⟨w1.heap.size, i, none⟩ u) g e x h a b :=
  H.setN _ (cell_lt H1.1) (cell_lt H1.2.1) i u
end
/-- Where the least value so far stands: nowhere yet, or a fraction. -/
def St0 (k : Nat) (s t : Int) : Prop := (k = 0 ∧ s = 0 ∧ t = 0) ∨ (0 < k ∧ frB s t = true)
theorem mn_same (u v : Int) : mnN u v u v = u ∧ mnD u v u v = v := by unfold mnN mnD; constructor <;> split <;> rfl
theorem frB_den {s t : Int} (h : frB s t = true) : t ≠ 0 := by have := (frB_pos h).1; omega
/-- What a call gives, when it is known what. -/
theorem givesF_eq {V : Bool × Int × Int} {m : Bool} {s t : Int} {w w' : World} (hV : V = (m, s, t)) (hb : Below w.heap.size w w') : GivesF V.2.1 V.2.2 V.1 w (.returned (.tuple #[fracV s t, .bool m])) w' := by subst hV; exact ⟨rfl, hb⟩
end Go.Proofs.YtklcildhfcomnaaGreatDoor
