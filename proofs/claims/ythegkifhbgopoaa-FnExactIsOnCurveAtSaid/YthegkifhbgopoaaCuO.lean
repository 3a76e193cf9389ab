/-
  Values of terms at spots, in the program and in the model: what the calls return.
  Conditions: a term's parts are within a fraction's limits; the model's spot has fractions.
-/
import Derived.Test.YthegkifhbgopoaaCuV
import Derived.Deep.RegionHeld3
namespace Go.Proofs.Ythegkifhbgopoaa
set_option linter.unusedSimpArgs false
set_option linter.unusedVariables false
open Go.ChangeShapes Go.WideShapes Go.ChangeAt Go.RowKit

/-- Two cells of one block. -/
abbrev DP (w' : World) (g i k : Nat) (a b : Int) : Prop := w'.cell? ⟨g, i, none⟩ = some (.int .i64 a) ∧ w'.cell? ⟨g, k, none⟩ = some (.int .i64 b)
section
variable {w w' : World} {g i k : Nat} {a b : Int}
theorem DP.drew (h : DP w g i k a b) : DP w.drew g i k a b := h
theorem DP.drewN (h : DP w g i k a b) (n : Nat) : DP (w.drewN n) g i k a b := h
theorem DP.below (h : DP w g i k a b) (hb : Below w.heap.size w w') : DP w' g i k a b := ⟨(cellAt hb g i (cell_lt h.1)).trans h.1, (cellAt hb g k (cell_lt h.1)).trans h.2⟩
theorem DP.alloc (h : DP w g i k a b) (o : Obj) : DP (w.alloc o) g i k a b := h.below ((Below.refl _ _).alloc (Nat.le_refl _) o)
theorem DP.setN (h : DP w g i k a b) (x : Nat) (hx : g ≠ x) (j : Nat) (u : Value) : DP (w.setCell ⟨x, j, none⟩ u) g i k a b := by
  obtain ⟨k1, k2⟩ := h
  have far : ∀ (y : Addr), y.block ≠ x → (w.setCell ⟨x, j, none⟩ u).cell? y = w.cell? y := fun y hy => World.cell?_setCell_other _ _ _ _ (fun e => hy (by rw [← e]))
  exact ⟨(far ⟨g, i, none⟩ hx).trans k1, (far ⟨g, k, none⟩ hx).trans k2⟩
theorem DP.setAt {w1 : World} (h : DP w g i k a b) (h1 : DP w1 g i k a b) (j : Nat) (u : Value) : DP (w.setCell ⟨w1.heap.size, j, none⟩ u) g i k a b :=
  h.setN _ (by have := cell_lt h1.1; simp at this; omega) j u
end
/-- A cell, and two of another block. -/
abbrev OT (w' : World) (g e : Nat) (x : Int) (h i k : Nat) (a b : Int) : Prop := w'.cell? ⟨g, e, none⟩ = some (.int .i64 x) ∧ w'.cell? ⟨h, i, none⟩ = some (.int .i64 a) ∧ w'.cell? ⟨h, k, none⟩ = some (.int .i64 b)
section
variable {w w' : World} {g e : Nat} {x : Int} {h i k : Nat} {a b : Int}
theorem OT.drew (H : OT w g e x h i k a b) : OT w.drew g e x h i k a b := H
theorem OT.drewN (H : OT w g e x h i k a b) (n : Nat) : OT (w.drewN n) g e x h i k a b := H
theorem OT.below (H : OT w g e x h i k a b) (hb : Below w.heap.size w w') : OT w' g e x h i k a b := ⟨(cellAt hb g e (cell_lt H.1)).trans H.1, DP.below H.2 hb⟩
theorem OT.alloc (H : OT w g e x h i k a b) (o : Obj) : OT (w.alloc o) g e x h i k a b := H.below ((Below.refl _ _).alloc (Nat.le_refl _) o)
theorem OT.setN (H : OT w g e x h i k a b) (y : Nat) (hg : g ≠ y) (hh : h ≠ y) (j : Nat) (u : Value) : OT (w.setCell ⟨y, j, none⟩ u) g e x h i k a b :=
  ⟨(World.cell?_setCell_other _ _ _ _ (fun e => hg (by have := congrArg Addr.block e; simpa using this.symm))).trans H.1, DP.setN H.2 y hh j u⟩
theorem OT.setAt {w1 : World} (H : OT w g e x h i k a b) (H1 : OT w1 g e x h i k a b) (j : Nat) (u : Value) : OT (w.setCell ⟨w1.heap.size, j, none⟩ u) g e x h i k a b :=
  H.setN _ (by have := cell_lt H1.1; simp at this; omega) (by have := cell_lt H1.2.1; simp at this; omega) j u
end
/-- The sum of both products, and the value. -/
def svB (i j a b c d : Int) : Bool := mkB (mkN (i * a) (1 * b) * mkD (j * c) (1 * d) + mkN (j * c) (1 * d) * mkD (i * a) (1 * b)) (mkD (i * a) (1 * b) * mkD (j * c) (1 * d))
def svN (i j a b c d : Int) : Int := mkN (mkN (i * a) (1 * b) * mkD (j * c) (1 * d) + mkN (j * c) (1 * d) * mkD (i * a) (1 * b)) (mkD (i * a) (1 * b) * mkD (j * c) (1 * d))
def svD (i j a b c d : Int) : Int := mkD (mkN (i * a) (1 * b) * mkD (j * c) (1 * d) + mkN (j * c) (1 * d) * mkD (i * a) (1 * b)) (mkD (i * a) (1 * b) * mkD (j * c) (1 * d))
def cvB (t : Tm) (a b c d : Int) : Bool := mkB (t.1 * a) (1 * b) && (mkB (t.2.1 * c) (1 * d) && (svB t.1 t.2.1 a b c d && mkB (svN t.1 t.2.1 a b c d * 1 + t.2.2 * svD t.1 t.2.1 a b c d) (svD t.1 t.2.1 a b c d * 1)))
def cvN (t : Tm) (a b c d : Int) : Int := okF (cvB t a b c d) (mkN (svN t.1 t.2.1 a b c d * 1 + t.2.2 * svD t.1 t.2.1 a b c d) (svD t.1 t.2.1 a b c d * 1))
def cvD (t : Tm) (a b c d : Int) : Int := okF (cvB t a b c d) (mkD (svN t.1 t.2.1 a b c d * 1 + t.2.2 * svD t.1 t.2.1 a b c d) (svD t.1 t.2.1 a b c d * 1))
theorem frB_whole {k : Int} (h : Lim k) : frB k 1 = true := by
  unfold Lim at h
  unfold frB inB
  have : gI k 1 = 1 := by unfold gI; simp
  simp [this]; omega
theorem mk_good {n d : Int} (h : mkB n d = true) : frB (mkN n d) (mkD n d) = true := by
  unfold mkN mkD; rw [if_pos h, if_pos h]
  unfold mkB at h; simp at h; exact h.2
theorem cvB_frB {t : Tm} {a b c d : Int} (h : cvB t a b c d = true) : frB (cvN t a b c d) (cvD t a b c d) = true := by
  unfold cvN cvD okF; rw [if_pos h, if_pos h]
  unfold cvB at h
  simp only [Bool.and_eq_true] at h
  exact mk_good h.2.2.2
theorem cv_no {t : Tm} {a b c d : Int} (h : cvB t a b c d = false) : cvN t a b c d = 0 ∧ cvD t a b c d = 0 := by
  unfold cvN cvD okF; simp [h]
theorem boxO (w : World) (t : Tm) (a b c d : Int) :
    T3 (((w.alloc (.cells #[.int .i64 t.1, .int .i64 t.2.1, .int .i64 t.2.2] 74)).alloc (.cells #[.int .i64 a, .int .i64 b, .int .i64 c, .int .i64 d] 34)).alloc (.cells #[.int .i64 0, .int .i64 0] 32)) w.heap.size t ∧
    Q4 (((w.alloc (.cells #[.int .i64 t.1, .int .i64 t.2.1, .int .i64 t.2.2] 74)).alloc (.cells #[.int .i64 a, .int .i64 b, .int .i64 c, .int .i64 d] 34)).alloc (.cells #[.int .i64 0, .int .i64 0] 32)) (w.heap.size + 1) a b c d ∧
    F2 (((w.alloc (.cells #[.int .i64 t.1, .int .i64 t.2.1, .int .i64 t.2.2] 74)).alloc (.cells #[.int .i64 a, .int .i64 b, .int .i64 c, .int .i64 d] 34)).alloc (.cells #[.int .i64 0, .int .i64 0] 32)) (w.heap.size + 2) 0 0 := by
  refine ⟨((T3.new w t _).below ((Below.refl _ _).alloc (Nat.le_refl _) _)).below ((Below.refl _ _).alloc (Nat.le_refl _) _), ?_, F2.new_ 0 0 (by simp)⟩
  have := (Q4.new (w.alloc (.cells #[.int .i64 t.1, .int .i64 t.2.1, .int .i64 t.2.2] 74)) a b c d).below ((Below.refl _ _).alloc (Nat.le_refl _) (.cells #[.int .i64 0, .int .i64 0] 32))
  rwa [World.size_alloc] at this
theorem wholeO_any (n : Int) (w : World) : Calls Try.prog 102 #[.int .i64 n] w fun e w' => e = .returned (fracV n 1) ∧ Below w.heap.size w w' := by
  go_enter Try.func102, Try.ntmps102
  go_wp2
  go_returns
  exact ⟨rfl, by go_grown⟩
theorem frIntO_any (n : Int) (w : World) : Calls Try.prog 95 #[.int .i64 n] w fun e w' => e = .returned (fracV n 1) ∧ Below w.heap.size w w' := by
  go_enter Try.func95, Try.ntmps95
  go_wp2
  go_returns
  exact ⟨rfl, by go_grown⟩
/-- A sum and a number of times a fraction. -/
def atB (s t k a b : Int) : Bool := (frB a b && mkB (k * a) (1 * b)) && mkB (s * mkD (k * a) (1 * b) + mkN (k * a) (1 * b) * t) (t * mkD (k * a) (1 * b))
def atN (s t k a b : Int) : Int := okF (frB a b && mkB (k * a) (1 * b)) (mkN (s * mkD (k * a) (1 * b) + mkN (k * a) (1 * b) * t) (t * mkD (k * a) (1 * b)))
def atD (s t k a b : Int) : Int := okF (frB a b && mkB (k * a) (1 * b)) (mkD (s * mkD (k * a) (1 * b) + mkN (k * a) (1 * b) * t) (t * mkD (k * a) (1 * b)))
set_option maxHeartbeats 1000000 in
set_option maxRecDepth 100000 in
theorem addTimesO_any (s t k a b : Int) (w : World) (hs : frB s t = true) (hk : Lim k) : Calls Try.prog 103 #[fracV s t, .int .i64 k, fracV a b] w fun e w' => GivesF (atN s t k a b) (atD s t k a b) (atB s t k a b) w e w' := by
  have hk1 := frB_whole hk
  obtain ⟨m, hm⟩ : ∃ m, m = (frB a b && mkB (k * a) (1 * b)) := ⟨_, rfl⟩
  obtain ⟨X, hX⟩ : ∃ X, X = okF (frB a b) (mkN (k * a) (1 * b)) := ⟨_, rfl⟩
  obtain ⟨Y, hY⟩ : ∃ Y, Y = okF (frB a b) (mkD (k * a) (1 * b)) := ⟨_, rfl⟩
  have HM := Lib.hid (show ∀ W, Calls Try.prog 101 #[fracV k 1, fracV a b] W fun e w' => GivesF X Y m W e w' from fun W => by
    refine (implMultiplyFracs_any k 1 a b W).mono fun e w' h => ?_
    unfold GivesOp twoB at h
    rw [hk1, Bool.true_and, ← hm, ← hX, ← hY] at h
    exact h)
  have HA1 := Lib.hid (show m = true → ∀ W, Calls Try.prog 104 #[fracV s t, fracV X Y] W fun e w' => GivesF (atN s t k a b) (atD s t k a b) (atB s t k a b) W e w' from fun hmm W => by
    rw [hmm] at hm
    have hp := hm.symm
    simp only [Bool.and_eq_true] at hp
    have hv := mk_good hp.2
    have eX : X = mkN (k * a) (1 * b) := by rw [hX, hp.1]; rfl
    have eY : Y = mkD (k * a) (1 * b) := by rw [hY, hp.1]; rfl
    refine (implAddFracs_any s t X Y W).mono fun e w' h => ?_
    unfold GivesOp twoB at h
    rw [eX, eY, hs, hv] at h
    unfold atN atD atB
    rw [← hm]
    exact h)
  have HA0 := Lib.hid (show m = false → atB s t k a b = false ∧ atN s t k a b = 0 ∧ atD s t k a b = 0 from fun hmm => by
    rw [hmm] at hm
    unfold atB atN atD okF
    rw [← hm]
    exact ⟨rfl, rfl, rfl⟩)
  obtain ⟨W, hW⟩ : ∃ W, W = ((w.alloc (.cells #[.int .i64 s, .int .i64 t] 32)).alloc (.cells #[.int .i64 a, .int .i64 b] 32)).alloc (.cells #[.int .i64 0, .int .i64 0] 32) := ⟨_, rfl⟩
  obtain ⟨h3, h5, h6⟩ := box3 w s t a b
  rw [← hW] at h3 h5 h6
  have hb : Below w.heap.size w W := by rw [hW]; go_grown
  have HW := Lib.hid hW
  have hS : DP W (w.heap.size + 1) 0 1 a b := ⟨h5.1, h5.2.1⟩
  have hg5 := cell_lt h5.1
  have H3 := Lib.hid h3
  have H6 := Lib.hid h6
  clear hW h5 hX hY hm h3 h6 hk1 hs hk
  go_enter Try.func103, Try.ntmps103
  go_upto_region 1 with fail
  rw [← HW.out]
  go_cut [8, 9] (fun p q wx => ∃ g, p = .pointer (some ⟨g, 0, none⟩) ∧ q = .bool m ∧ F2 wx g X Y ∧ Below W.heap.size W wx)
  case first =>
    go_region_held3 (fun w' => w'.cell? ⟨w.heap.size + 1, 0, none⟩ = some (.int .i64 a) ∧ w'.cell? ⟨w.heap.size + 1, 1, none⟩ = some (.int .i64 b)) (repeat' (first | with_reducible assumption | with_reducible refine DP.below ?_ b2 | with_reducible refine DP.below ?_ b1 | with_reducible refine DP.drew ?_ | with_reducible refine DP.drewN ?_ _ | with_reducible refine DP.setAt ?_ ?_ _ _ | with_reducible refine DP.setN ?_ _ (by first | omega | (simp; omega)) _ _ | with_reducible refine DP.alloc ?_ _)) (first | (go_at_call 102; refine (wholeO_any _ _).mono ?_; rintro e w1 ⟨rfl, b1⟩; have k1 := cellAt b1; have k2 := frozenAt b1; first | have z1 : W.heap.size < w1.heap.size := (by have := b1.size; simp at this; omega) | skip) | (go_at_call 101; refine (HM.out _).mono ?_; rintro e w2 ⟨rfl, b2⟩; have k3 := cellAt b2; have k4 := frozenAt b2))
    all_goals go_wp2_with fail
    all_goals go_meet
    all_goals
      have hs1 : W.heap.size ≤ w1.heap.size := by have := b1.size; simp at this; omega
      have hs2 : W.heap.size ≤ w2.heap.size := by have := b2.size; (try simp at this); omega
      first
      | exact ⟨_, rfl, rfl, (((F2.new W 0 0).drew.below b1).below b2).store _ _, ((bel2 (bel2 (((Below.refl W.heap.size W).alloc (Nat.le_refl _) _).drew) b1) b2).setCell (Nat.le_refl _) _).setCell (Nat.le_refl _) _⟩
      | exact ⟨_, rfl, rfl, ((F2.new w1 0 0).below b2).store _ _, ((bel2 ((bel2 (Below.refl W.heap.size W).drew b1).alloc hs1 _) b2).setCell hs1 _).setCell hs1 _⟩
      | exact ⟨_, rfl, rfl, F2.new _ _ _, (bel2 (bel2 (Below.refl W.heap.size W).drew b1) b2).alloc hs2 _⟩
  case rest =>
    obtain ⟨g, rfl, rfl, ⟨d0, d1, -, -⟩, b0⟩ := hcut
    have B0 := bel2 hb b0
    have hw6 : w.heap.size ≤ w.heap.size + 2 := by omega
    obtain ⟨c0, c1, f0, f1⟩ := H6.out.below b0
    cases m
    · go_wp2_with fail
      refine bodyPost_ret ((F2.store ⟨c0, c1, f0, f1⟩ _ _).results rfl rfl rfl) rfl ?_
      obtain ⟨e0, e1, e2⟩ := HA0.out (by simp)
      rw [e0, e1, e2]
      exact ⟨rfl, (B0.setCell hw6 _).setCell hw6 _⟩
    · obtain ⟨a0, a1, -, -⟩ := H3.out.below b0
      go_wp2_with fail
      refine (HA1.out (by simp) _).mono ?_
      rintro e w2 ⟨rfl, b2⟩
      obtain ⟨c0, c1, f0, f1⟩ := (H6.out.below b0).below b2
      go_wp2_with fail
      refine bodyPost_ret ((F2.store ⟨c0, c1, f0, f1⟩ _ _).results rfl rfl rfl) rfl ?_
      exact ⟨rfl, ((bel2 B0 b2).setCell hw6 _).setCell hw6 _⟩
set_option maxHeartbeats 4000000 in
set_option maxRecDepth 100000 in
theorem valueAtSpot_any (t : Tm) (a b c d : Int) (w : World) (h1 : Lim t.1) (h2 : Lim t.2.1) (h3 : Lim t.2.2) : Calls Try.prog 57 #[tmV t, spV a b c d] w fun e w' => GivesF (okF (frB a b && frB c d) (cvN t a b c d)) (okF (frB a b && frB c d) (cvD t a b c d)) (frB a b && frB c d && cvB t a b c d) w e w' := by
  obtain ⟨m, hm⟩ : ∃ m, m = (frB a b && mkB (t.1 * a) (1 * b)) := ⟨_, rfl⟩
  obtain ⟨X, hX⟩ : ∃ X, X = okF (frB a b) (mkN (t.1 * a) (1 * b)) := ⟨_, rfl⟩
  obtain ⟨Y, hY⟩ : ∃ Y, Y = okF (frB a b) (mkD (t.1 * a) (1 * b)) := ⟨_, rfl⟩
  obtain ⟨m', hm'⟩ : ∃ m', m' = atB X Y t.2.1 c d := ⟨_, rfl⟩
  obtain ⟨X', hX'⟩ : ∃ X', X' = atN X Y t.2.1 c d := ⟨_, rfl⟩
  obtain ⟨Y', hY'⟩ : ∃ Y', Y' = atD X Y t.2.1 c d := ⟨_, rfl⟩
  have HM := Lib.hid (show ∀ W, Calls Try.prog 101 #[fracV t.1 1, fracV a b] W fun e w' => GivesF X Y m W e w' from fun W => by
    refine (implMultiplyFracs_any t.1 1 a b W).mono fun e w' h => ?_
    unfold GivesOp twoB at h
    rw [frB_whole h1, Bool.true_and, ← hm, ← hX, ← hY] at h
    exact h)
  have HG := Lib.hid (show m = true → frB X Y = true ∧ X = mkN (t.1 * a) (1 * b) ∧ Y = mkD (t.1 * a) (1 * b) ∧ frB a b = true ∧ mkB (t.1 * a) (1 * b) = true from fun hmm => by
    rw [hmm] at hm
    have hp := hm.symm
    simp only [Bool.and_eq_true] at hp
    have eX : X = mkN (t.1 * a) (1 * b) := by rw [hX, hp.1]; rfl
    have eY : Y = mkD (t.1 * a) (1 * b) := by rw [hY, hp.1]; rfl
    exact ⟨by rw [eX, eY]; exact mk_good hp.2, eX, eY, hp.1, hp.2⟩)
  have HA1 := Lib.hid (show m = true → ∀ W, Calls Try.prog 103 #[fracV X Y, .int .i64 t.2.1, fracV c d] W fun e w' => GivesF X' Y' m' W e w' from fun hmm W => by
    rw [hm', hX', hY']
    exact addTimesO_any X Y t.2.1 c d W (HG.out hmm).1 h2)
  have HV := Lib.hid (show m = true → m' = true → frB a b = true ∧ frB c d = true ∧ frB X' Y' = true ∧ X' = svN t.1 t.2.1 a b c d ∧ Y' = svD t.1 t.2.1 a b c d ∧ cvB t a b c d = mkB (svN t.1 t.2.1 a b c d * 1 + t.2.2 * svD t.1 t.2.1 a b c d) (svD t.1 t.2.1 a b c d * 1) from fun hmm hmm' => by
    obtain ⟨g1, eX, eY, g2, g3⟩ := HG.out hmm
    rw [hmm'] at hm'
    have hp := hm'.symm
    unfold atB at hp
    simp only [Bool.and_eq_true] at hp
    obtain ⟨⟨p1, p2⟩, p3⟩ := hp
    have e1 : X' = svN t.1 t.2.1 a b c d := by rw [hX', eX, eY]; unfold atN svN okF; rw [p1, p2]; rfl
    have e2 : Y' = svD t.1 t.2.1 a b c d := by rw [hY', eX, eY]; unfold atD svD okF; rw [p1, p2]; rfl
    rw [eX, eY] at p3
    refine ⟨g2, p1, ?_, e1, e2, ?_⟩
    · rw [e1, e2]; exact mk_good p3
    · unfold cvB; rw [g3, p2, show svB t.1 t.2.1 a b c d = true from p3]; rfl)
  have HN := Lib.hid (show (m = false ∨ m' = false) → (frB a b && frB c d && cvB t a b c d) = false from fun hor => by
    cases q1 : frB a b
    · rfl
    cases q2 : frB c d
    · rfl
    have eX : X = mkN (t.1 * a) (1 * b) := by rw [hX, q1]; rfl
    have eY : Y = mkD (t.1 * a) (1 * b) := by rw [hY, q1]; rfl
    rcases hor with h | h
    · rw [h, q1] at hm
      show cvB t a b c d = false
      unfold cvB
      rw [show mkB (t.1 * a) (1 * b) = false from hm.symm]; rfl
    · rw [h, eX, eY] at hm'
      show cvB t a b c d = false
      unfold cvB
      unfold atB at hm'
      rw [q2, Bool.true_and] at hm'
      cases q3 : mkB (t.2.1 * c) (1 * d)
      · simp
      · rw [q3, Bool.true_and] at hm'
        rw [show svB t.1 t.2.1 a b c d = false from hm'.symm]; simp)
  have HNo := Lib.hid (show (frB a b && frB c d && cvB t a b c d) = false → okF (frB a b && frB c d) (cvN t a b c d) = 0 ∧ okF (frB a b && frB c d) (cvD t a b c d) = 0 from fun hf => by
    cases q : (frB a b && frB c d)
    · exact ⟨rfl, rfl⟩
    · rw [q] at hf
      exact cv_no hf)
  have HA2 := Lib.hid (show m = true → m' = true → ∀ W, Calls Try.prog 104 #[fracV X' Y', fracV t.2.2 1] W fun e w' => GivesF (okF (frB a b && frB c d) (cvN t a b c d)) (okF (frB a b && frB c d) (cvD t a b c d)) (frB a b && frB c d && cvB t a b c d) W e w' from fun hmm hmm' W => by
    obtain ⟨g1, g2, g3, g4, g5, g6⟩ := HV.out hmm hmm'
    refine (implAddFracs_any X' Y' t.2.2 1 W).mono fun e w' h => ?_
    unfold GivesOp twoB at h
    rw [g3, frB_whole h3, g4, g5] at h
    unfold cvN cvD
    rw [g1, g2, g6]
    unfold okF GivesF at *
    simp only [Bool.true_and, if_true] at h ⊢
    cases q : mkB (svN t.1 t.2.1 a b c d * 1 + t.2.2 * svD t.1 t.2.1 a b c d) (svD t.1 t.2.1 a b c d * 1)
    · have n0 : mkN (svN t.1 t.2.1 a b c d * 1 + t.2.2 * svD t.1 t.2.1 a b c d) (svD t.1 t.2.1 a b c d * 1) = 0 := by unfold mkN; rw [q]; rfl
      have n1 : mkD (svN t.1 t.2.1 a b c d * 1 + t.2.2 * svD t.1 t.2.1 a b c d) (svD t.1 t.2.1 a b c d * 1) = 0 := by unfold mkD; rw [q]; rfl
      rw [q, n0, n1] at h
      exact h
    · rw [q] at h
      exact h)
  obtain ⟨W, hW⟩ : ∃ W, W = ((w.alloc (.cells #[.int .i64 t.1, .int .i64 t.2.1, .int .i64 t.2.2] 74)).alloc (.cells #[.int .i64 a, .int .i64 b, .int .i64 c, .int .i64 d] 34)).alloc (.cells #[.int .i64 0, .int .i64 0] 32) := ⟨_, rfl⟩
  obtain ⟨h3', h5, h6⟩ := boxO w t a b c d
  rw [← hW] at h3' h5 h6
  have hb : Below w.heap.size w W := by rw [hW]; go_grown
  have HW := Lib.hid hW
  have hS : OT W w.heap.size 0 t.1 (w.heap.size + 1) 0 1 a b := ⟨h3'.1, h5.cells.1.1, h5.cells.1.2.1⟩
  have hg5 := cell_lt h5.cells.1.1
  have hg6 := cell_lt h6.1
  have H3 := Lib.hid h3'
  have H5 := Lib.hid h5
  have H6 := Lib.hid h6
  obtain ⟨R1, hR1⟩ : ∃ R, R = okF (frB a b && frB c d) (cvN t a b c d) := ⟨_, rfl⟩
  obtain ⟨R2, hR2⟩ : ∃ R, R = okF (frB a b && frB c d) (cvD t a b c d) := ⟨_, rfl⟩
  obtain ⟨rb, hrb⟩ : ∃ R, R = (frB a b && frB c d && cvB t a b c d) := ⟨_, rfl⟩
  rw [← hR1, ← hR2, ← hrb] at HA2 ⊢
  rw [← hrb] at HN HNo
  rw [← hR1, ← hR2] at HNo
  clear hW h3' h5 h6 hX hY hm hX' hY' hm' h1 h2 h3 HG HV hR1 hR2 hrb
  obtain ⟨ti, tj, tc⟩ := t
  dsimp only at *
  go_enter Try.func57, Try.ntmps57
  go_upto_region 1 with fail
  rw [← HW.out]
  go_cut [6, 7] (fun p q wx => ∃ g, p = .pointer (some ⟨g, 0, none⟩) ∧ q = .bool m ∧ F2 wx g X Y ∧ Below W.heap.size W wx)
  case first =>
    go_region_held3 (fun w' => w'.cell? ⟨w.heap.size, 0, none⟩ = some (.int .i64 ti) ∧ w'.cell? ⟨w.heap.size + 1, 0, none⟩ = some (.int .i64 a) ∧ w'.cell? ⟨w.heap.size + 1, 1, none⟩ = some (.int .i64 b)) (repeat' (first | with_reducible assumption | with_reducible refine OT.below ?_ b2 | with_reducible refine OT.below ?_ b1 | with_reducible refine OT.drew ?_ | with_reducible refine OT.drewN ?_ _ | with_reducible refine OT.setAt ?_ ?_ _ _ | with_reducible refine OT.setN ?_ _ (by first | omega | (simp; omega)) (by first | omega | (simp; omega)) _ _ | with_reducible refine OT.alloc ?_ _)) (first | (go_at_call 102; refine (wholeO_any _ _).mono ?_; rintro e w1 ⟨rfl, b1⟩; have k1 := cellAt b1; have k2 := frozenAt b1; first | have z1 : W.heap.size < w1.heap.size := (by have := b1.size; simp at this; omega) | skip) | (go_at_call 101; refine (HM.out _).mono ?_; rintro e w2 ⟨rfl, b2⟩; have k3 := cellAt b2; have k4 := frozenAt b2))
    all_goals go_wp2_with fail
    all_goals go_meet
    all_goals
      have hs1 : W.heap.size ≤ w1.heap.size := by have := b1.size; simp at this; omega
      have hs2 : W.heap.size ≤ w2.heap.size := by have := b2.size; (try simp at this); omega
      first
      | exact ⟨_, rfl, rfl, (((F2.new W 0 0).drew.below b1).below b2).store _ _, ((bel2 (bel2 (((Below.refl W.heap.size W).alloc (Nat.le_refl _) _).drew) b1) b2).setCell (Nat.le_refl _) _).setCell (Nat.le_refl _) _⟩
      | exact ⟨_, rfl, rfl, ((F2.new w1 0 0).below b2).store _ _, ((bel2 ((bel2 (Below.refl W.heap.size W).drew b1).alloc hs1 _) b2).setCell hs1 _).setCell hs1 _⟩
      | exact ⟨_, rfl, rfl, F2.new _ _ _, (bel2 (bel2 (Below.refl W.heap.size W).drew b1) b2).alloc hs2 _⟩
  case rest =>
    obtain ⟨g, rfl, rfl, ⟨d0, d1, -, -⟩, b0⟩ := hcut
    have B0 := bel2 hb b0
    have hw6 : w.heap.size ≤ w.heap.size + 2 := by omega
    obtain ⟨c0, c1, f0, f1⟩ := H6.out.below b0
    cases m
    · go_wp2_with fail
      refine bodyPost_ret ((F2.store ⟨c0, c1, f0, f1⟩ _ _).results rfl rfl rfl) rfl ?_
      have e0 := HN.out (.inl (by simp))
      obtain ⟨e1, e2⟩ := HNo.out e0
      rw [e0, e1, e2]
      exact ⟨rfl, (B0.setCell hw6 _).setCell hw6 _⟩
    · obtain ⟨t0, t1, t2⟩ := H3.out.below b0
      obtain ⟨⟨q0, q1, q2, q3⟩, -⟩ := (H5.out.below b0).cells
      go_wp2_with fail
      refine (HA1.out (by simp) _).mono ?_
      rintro e w2 ⟨rfl, b2⟩
      have T2 := (H3.out.below b0).below b2
      have F6 := (H6.out.below b0).below b2
      have hw2 : w.heap.size + 2 < w2.heap.size := cell_lt F6.1
      have B2 := bel2 B0 b2
      have T2' := Lib.hid T2
      have HF6 := Lib.hid F6
      obtain ⟨c0, c1, f0, f1⟩ := F6
      clear t0 t1 t2 q0 q1 q2 q3 d0 d1 T2
      go_upto_region 5 with fail
      have F8 := F2.new w2 X' Y'
      have T8 := T2'.out.below ((Below.refl _ _).alloc (Nat.le_refl _) (.cells #[.int .i64 X', .int .i64 Y'] 32))
      have F68 := HF6.out.below ((Below.refl _ _).alloc (Nat.le_refl _) (.cells #[.int .i64 X', .int .i64 Y'] 32))
      have B8 := B2.alloc (by omega) (.cells #[.int .i64 X', .int .i64 Y'] 32)
      obtain ⟨G, hG⟩ : ∃ G, G = w2.heap.size := ⟨_, rfl⟩
      obtain ⟨W3, hW3⟩ : ∃ W3, W3 = w2.alloc (.cells #[.int .i64 X', .int .i64 Y'] 32) := ⟨_, rfl⟩
      rw [← hG] at F8 hw2 ⊢
      rw [← hW3] at F8 T8 F68 B8 ⊢
      have HB8 := Lib.hid B8
      have HF68 := Lib.hid F68
      clear c0 c1 f0 f1 hG hW3 B2 b2 HF6 T2' B8
      cases m'
      · obtain ⟨c0, c1, f0, f1⟩ := F68
        clear F8 T8
        go_wp2_with fail
        refine bodyPost_ret ((F2.store ⟨c0, c1, f0, f1⟩ _ _).results rfl rfl rfl) rfl ?_
        have e0 := HN.out (.inr (by simp))
        obtain ⟨e1, e2⟩ := HNo.out e0
        rw [e0, e1, e2]
        exact ⟨rfl, (HB8.out.setCell hw6 _).setCell hw6 _⟩
      · have hS8 : OT W3 w.heap.size 2 tc G 0 1 X' Y' := ⟨T8.2.2, F8.1, F8.2.1⟩
        have l0 : w.heap.size + 2 < W3.heap.size := cell_lt F68.1
        have l1 : G < W3.heap.size := cell_lt F8.1
        have l2 : w.heap.size < W3.heap.size := cell_lt T8.1
        clear F8 T8 F68
        go_upto_region 7 with fail
        go_cut [5] (fun q wx => q = .bool rb ∧ F2 wx (w.heap.size + 2) R1 R2 ∧ Below w.heap.size w wx)
        case first =>
          go_region_held3 (fun w' => w'.cell? ⟨w.heap.size, 2, none⟩ = some (.int .i64 tc) ∧ w'.cell? ⟨G, 0, none⟩ = some (.int .i64 X') ∧ w'.cell? ⟨G, 1, none⟩ = some (.int .i64 Y')) (repeat' (first | with_reducible assumption | with_reducible refine OT.below ?_ b2 | with_reducible refine OT.below ?_ b1 | with_reducible refine OT.drew ?_ | with_reducible refine OT.drewN ?_ _ | with_reducible refine OT.setAt ?_ ?_ _ _ | with_reducible refine OT.setN ?_ _ (by first | omega | (simp; omega)) (by first | omega | (simp; omega)) _ _ | with_reducible refine OT.alloc ?_ _)) (first | (go_at_call 102; refine (wholeO_any _ _).mono ?_; rintro e w1 ⟨rfl, b1⟩; have k1 := cellAt b1; have k2 := frozenAt b1; have Fw := Lib.hid (F2.below (w := _) (by exact HF68.out) b1)) | (go_at_call 104; refine (HA2.out (by simp) (by simp) _).mono ?_; rintro e w4 ⟨rfl, b2⟩; obtain ⟨e0, e1, e2, e3⟩ := F2.below (w := _) (by exact Fw.out) b2))
          all_goals go_wp2_with fail
          all_goals go_meet
          all_goals exact ⟨rfl, F2.store ⟨e0, e1, e2, e3⟩ _ _, ((bel2 (bel2 HB8.out.drew b1) b2).setCell hw6 _).setCell hw6 _⟩
        case rest =>
          obtain ⟨rfl, F9, B9⟩ := hcut
          go_wp2_with fail
          refine bodyPost_ret (F9.results rfl rfl rfl) rfl ?_
          exact ⟨rfl, B9⟩
set_option maxHeartbeats 4000000 in
set_option maxRecDepth 100000 in
theorem cuValue_any (t : Tm) (a b c d : Int) (w : World) (h1 : Lim t.1) (h2 : Lim t.2.1) (h3 : Lim t.2.2) (g1 : frB a b = true) (g2 : frB c d = true) : Calls Try.prog 51 #[tmV t, spV a b c d] w fun e w' => GivesF (cvN t a b c d) (cvD t a b c d) (cvB t a b c d) w e w' := by
  obtain ⟨m, hm⟩ : ∃ m, m = mkB (t.1 * a) (1 * b) := ⟨_, rfl⟩
  obtain ⟨X, hX⟩ : ∃ X, X = mkN (t.1 * a) (1 * b) := ⟨_, rfl⟩
  obtain ⟨Y, hY⟩ : ∃ Y, Y = mkD (t.1 * a) (1 * b) := ⟨_, rfl⟩
  obtain ⟨m', hm'⟩ : ∃ m', m' = mkB (t.2.1 * c) (1 * d) := ⟨_, rfl⟩
  obtain ⟨X', hX'⟩ : ∃ X', X' = mkN (t.2.1 * c) (1 * d) := ⟨_, rfl⟩
  obtain ⟨Y', hY'⟩ : ∃ Y', Y' = mkD (t.2.1 * c) (1 * d) := ⟨_, rfl⟩
  obtain ⟨ms, hms⟩ : ∃ m, m = svB t.1 t.2.1 a b c d := ⟨_, rfl⟩
  obtain ⟨Xs, hXs⟩ : ∃ X, X = svN t.1 t.2.1 a b c d := ⟨_, rfl⟩
  obtain ⟨Ys, hYs⟩ : ∃ Y, Y = svD t.1 t.2.1 a b c d := ⟨_, rfl⟩
  have HM := Lib.hid (show ∀ W, Calls Try.prog 94 #[fracV t.1 1, fracV a b] W fun e w' => GivesF X Y m W e w' from fun W => by
    rw [hm, hX, hY]
    exact frMul_any t.1 1 a b W (frB_whole h1) g1)
  have HM' := Lib.hid (show ∀ W, Calls Try.prog 94 #[fracV t.2.1 1, fracV c d] W fun e w' => GivesF X' Y' m' W e w' from fun W => by
    rw [hm', hX', hY']
    exact frMul_any t.2.1 1 c d W (frB_whole h2) g2)
  have HA1 := Lib.hid (show m = true → m' = true → ∀ W, Calls Try.prog 96 #[fracV X Y, fracV X' Y'] W fun e w' => GivesF Xs Ys ms W e w' from fun q q' W => by
    rw [hms, hXs, hYs, hX, hY, hX', hY']
    rw [q] at hm
    rw [q'] at hm'
    exact frAdd_any _ _ _ _ W (mk_good hm.symm) (mk_good hm'.symm))
  have HN := Lib.hid (show (m = false ∨ m' = false ∨ ms = false) → cvB t a b c d = false from fun hor => by
    unfold cvB
    rw [← hm, ← hm', ← hms]
    rcases hor with h | h | h <;> rw [h] <;> simp)
  have HA2 := Lib.hid (show m = true → m' = true → ms = true → ∀ W, Calls Try.prog 96 #[fracV Xs Ys, fracV t.2.2 1] W fun e w' => GivesF (cvN t a b c d) (cvD t a b c d) (cvB t a b c d) W e w' from fun q q' q'' W => by
    have e : cvB t a b c d = mkB (Xs * 1 + t.2.2 * Ys) (Ys * 1) := by
      unfold cvB
      rw [← hm, ← hm', ← hms, q, q', q'', hXs, hYs]; rfl
    have hg : frB Xs Ys = true := by
      rw [hXs, hYs]
      rw [q''] at hms
      exact mk_good hms.symm
    refine (frAdd_any Xs Ys t.2.2 1 W hg (frB_whole h3)).mono fun e' w' h => ?_
    unfold cvN cvD
    rw [e, ← hXs, ← hYs]
    unfold okF
    cases r : mkB (Xs * 1 + t.2.2 * Ys) (Ys * 1)
    · have n0 : mkN (Xs * 1 + t.2.2 * Ys) (Ys * 1) = 0 := by unfold mkN; rw [r]; rfl
      have n1 : mkD (Xs * 1 + t.2.2 * Ys) (Ys * 1) = 0 := by unfold mkD; rw [r]; rfl
      rw [r, n0, n1] at h
      exact h
    · rw [r] at h
      exact h)
  obtain ⟨W, hW⟩ : ∃ W, W = ((w.alloc (.cells #[.int .i64 t.1, .int .i64 t.2.1, .int .i64 t.2.2] 74)).alloc (.cells #[.int .i64 a, .int .i64 b, .int .i64 c, .int .i64 d] 34)).alloc (.cells #[.int .i64 0, .int .i64 0] 32) := ⟨_, rfl⟩
  obtain ⟨h3', h5, h6⟩ := boxO w t a b c d
  rw [← hW] at h3' h5 h6
  have hb : Below w.heap.size w W := by rw [hW]; go_grown
  have HW := Lib.hid hW
  have hS : OT W w.heap.size 0 t.1 (w.heap.size + 1) 0 1 a b := ⟨h3'.1, h5.cells.1.1, h5.cells.1.2.1⟩
  have hg5 := cell_lt h5.cells.1.1
  have hg6 := cell_lt h6.1
  have H3 := Lib.hid h3'
  have H5 := Lib.hid h5
  have H6 := Lib.hid h6
  have HNo := Lib.hid (cv_no (t := t) (a := a) (b := b) (c := c) (d := d))
  obtain ⟨R1, hR1⟩ : ∃ R, R = cvN t a b c d := ⟨_, rfl⟩
  obtain ⟨R2, hR2⟩ : ∃ R, R = cvD t a b c d := ⟨_, rfl⟩
  obtain ⟨rb, hrb⟩ : ∃ R, R = cvB t a b c d := ⟨_, rfl⟩
  rw [← hR1, ← hR2, ← hrb] at HA2 HNo ⊢
  rw [← hrb] at HN
  clear hW h3' h5 h6 hX hY hm hX' hY' hm' h1 h2 h3 hR1 hR2 hrb g1 g2 hms hXs hYs
  obtain ⟨ti, tj, tc⟩ := t
  dsimp only at *
  have hw6 : w.heap.size ≤ w.heap.size + 2 := by omega
  go_enter Try.func51, Try.ntmps51
  go_upto_region 1 with fail
  rw [← HW.out]
  go_cut [6, 7] (fun p q wx => ∃ g, p = .pointer (some ⟨g, 0, none⟩) ∧ q = .bool m ∧ F2 wx g X Y ∧ Below W.heap.size W wx)
  case first =>
    go_region_held3 (fun w' => w'.cell? ⟨w.heap.size, 0, none⟩ = some (.int .i64 ti) ∧ w'.cell? ⟨w.heap.size + 1, 0, none⟩ = some (.int .i64 a) ∧ w'.cell? ⟨w.heap.size + 1, 1, none⟩ = some (.int .i64 b)) (repeat' (first | with_reducible assumption | with_reducible refine OT.below ?_ b2 | with_reducible refine OT.below ?_ b1 | with_reducible refine OT.drew ?_ | with_reducible refine OT.drewN ?_ _ | with_reducible refine OT.setAt ?_ ?_ _ _ | with_reducible refine OT.setN ?_ _ (by first | omega | (simp; omega)) (by first | omega | (simp; omega)) _ _ | with_reducible refine OT.alloc ?_ _)) (first | (go_at_call 95; refine (frIntO_any _ _).mono ?_; rintro e w1 ⟨rfl, b1⟩; have k1 := cellAt b1; have k2 := frozenAt b1; first | have z1 : W.heap.size < w1.heap.size := (by have := b1.size; simp at this; omega) | skip) | (go_at_call 94; refine (HM.out _).mono ?_; rintro e w2 ⟨rfl, b2⟩; have k3 := cellAt b2; have k4 := frozenAt b2))
    all_goals go_wp2_with fail
    all_goals go_meet
    all_goals
      have hs1 : W.heap.size ≤ w1.heap.size := by have := b1.size; simp at this; omega
      have hs2 : W.heap.size ≤ w2.heap.size := by have := b2.size; (try simp at this); omega
      first
      | exact ⟨_, rfl, rfl, (((F2.new W 0 0).drew.below b1).below b2).store _ _, ((bel2 (bel2 (((Below.refl W.heap.size W).alloc (Nat.le_refl _) _).drew) b1) b2).setCell (Nat.le_refl _) _).setCell (Nat.le_refl _) _⟩
      | exact ⟨_, rfl, rfl, ((F2.new w1 0 0).below b2).store _ _, ((bel2 ((bel2 (Below.refl W.heap.size W).drew b1).alloc hs1 _) b2).setCell hs1 _).setCell hs1 _⟩
      | exact ⟨_, rfl, rfl, F2.new _ _ _, (bel2 (bel2 (Below.refl W.heap.size W).drew b1) b2).alloc hs2 _⟩
  case rest =>
    obtain ⟨g, rfl, rfl, F8, b0⟩ := hcut
    obtain ⟨W2, hW2⟩ : ∃ W2, W2 = wc := ⟨_, rfl⟩
    subst hW2
    have B0 := bel2 hb b0
    have t0 := H3.out.below b0
    have q0 := (H5.out.below b0).cells
    have hS2 : OT W2 w.heap.size 1 tj (w.heap.size + 1) 2 3 c d := ⟨t0.2.1, q0.1.2.2.1, q0.1.2.2.2⟩
    have l5 := cell_lt q0.1.1
    have HF8 := Lib.hid F8
    have HB0 := Lib.hid B0
    have Hb0 := Lib.hid b0
    clear t0 q0 F8 B0 b0 hS hg5 hg6
    go_upto_region 2 with fail
    go_cut [8, 9] (fun p q wx => ∃ g, p = .pointer (some ⟨g, 0, none⟩) ∧ q = .bool m' ∧ F2 wx g X' Y' ∧ Below W2.heap.size W2 wx)
    case first =>
      go_region_held3 (fun w' => w'.cell? ⟨w.heap.size, 1, none⟩ = some (.int .i64 tj) ∧ w'.cell? ⟨w.heap.size + 1, 2, none⟩ = some (.int .i64 c) ∧ w'.cell? ⟨w.heap.size + 1, 3, none⟩ = some (.int .i64 d)) (repeat' (first | with_reducible assumption | with_reducible refine OT.below ?_ b2 | with_reducible refine OT.below ?_ b1 | with_reducible refine OT.drew ?_ | with_reducible refine OT.drewN ?_ _ | with_reducible refine OT.setAt ?_ ?_ _ _ | with_reducible refine OT.setN ?_ _ (by first | omega | (simp; omega)) (by first | omega | (simp; omega)) _ _ | with_reducible refine OT.alloc ?_ _)) (first | (go_at_call 95; refine (frIntO_any _ _).mono ?_; rintro e w1 ⟨rfl, b1⟩; have k1 := cellAt b1; have k2 := frozenAt b1; first | have z1 : W2.heap.size < w1.heap.size := (by have := b1.size; simp at this; omega) | skip) | (go_at_call 94; refine (HM'.out _).mono ?_; rintro e w2 ⟨rfl, b2⟩; have k3 := cellAt b2; have k4 := frozenAt b2))
      all_goals go_wp2_with fail
      all_goals go_meet
      all_goals
        have hs1 : W2.heap.size ≤ w1.heap.size := by have := b1.size; simp at this; omega
        have hs2 : W2.heap.size ≤ w2.heap.size := by have := b2.size; (try simp at this); omega
        first
        | exact ⟨_, rfl, rfl, (((F2.new W2 0 0).drew.below b1).below b2).store _ _, ((bel2 (bel2 (((Below.refl W2.heap.size W2).alloc (Nat.le_refl _) _).drew) b1) b2).setCell (Nat.le_refl _) _).setCell (Nat.le_refl _) _⟩
        | exact ⟨_, rfl, rfl, ((F2.new w1 0 0).below b2).store _ _, ((bel2 ((bel2 (Below.refl W2.heap.size W2).drew b1).alloc hs1 _) b2).setCell hs1 _).setCell hs1 _⟩
        | exact ⟨_, rfl, rfl, F2.new _ _ _, (bel2 (bel2 (Below.refl W2.heap.size W2).drew b1) b2).alloc hs2 _⟩
    case rest =>
      obtain ⟨g', rfl, rfl, F9, b9⟩ := hcut
      have B9 := bel2 HB0.out b9
      have F8' := HF8.out.below b9
      have T9 := (H3.out.below Hb0.out).below b9
      have F69 := (H6.out.below Hb0.out).below b9
      have HB9 := Lib.hid B9
      have HF69 := Lib.hid F69
      have HT9 := Lib.hid T9
      have l6 : w.heap.size + 2 < wc.heap.size := cell_lt F69.1
      clear hS2 l5 b9 B9 T9
      cases m
      · obtain ⟨c0, c1, f0, f1⟩ := F69
        clear F9 F8'
        go_wp2_with fail
        refine bodyPost_ret ((F2.store ⟨c0, c1, f0, f1⟩ _ _).results rfl rfl rfl) rfl ?_
        have e0 := HN.out (.inl (by simp))
        obtain ⟨e1, e2⟩ := HNo.out e0
        rw [e0, e1, e2]
        exact ⟨rfl, (HB9.out.setCell hw6 _).setCell hw6 _⟩
      cases m'
      · obtain ⟨c0, c1, f0, f1⟩ := F69
        clear F9 F8'
        go_wp2_with fail
        refine bodyPost_ret ((F2.store ⟨c0, c1, f0, f1⟩ _ _).results rfl rfl rfl) rfl ?_
        have e0 := HN.out (.inr (.inl (by simp)))
        obtain ⟨e1, e2⟩ := HNo.out e0
        rw [e0, e1, e2]
        exact ⟨rfl, (HB9.out.setCell hw6 _).setCell hw6 _⟩
      obtain ⟨d0, d1, -, -⟩ := F8'
      obtain ⟨d2, d3, -, -⟩ := F9
      clear F69
      go_wp2_with fail
      refine (HA1.out (by simp) (by simp) _).mono ?_
      rintro e w2 ⟨rfl, b2⟩
      have B2 := bel2 HB9.out b2
      have F62 := HF69.out.below b2
      have T2 := HT9.out.below b2
      have hw2 : w.heap.size + 2 < w2.heap.size := cell_lt F62.1
      have HB2 := Lib.hid B2
      have HF62 := Lib.hid F62
      have HT2 := Lib.hid T2
      clear d0 d1 d2 d3 B2 F62 T2 b2 HB9 HF69 HT9
      go_upto_region 6 with fail
      have F8 := F2.new w2 Xs Ys
      have T8 := HT2.out.below ((Below.refl _ _).alloc (Nat.le_refl _) (.cells #[.int .i64 Xs, .int .i64 Ys] 32))
      have F68 := HF62.out.below ((Below.refl _ _).alloc (Nat.le_refl _) (.cells #[.int .i64 Xs, .int .i64 Ys] 32))
      have B8 := HB2.out.alloc (by omega) (.cells #[.int .i64 Xs, .int .i64 Ys] 32)
      obtain ⟨G, hG⟩ : ∃ G, G = w2.heap.size := ⟨_, rfl⟩
      obtain ⟨W3, hW3⟩ : ∃ W3, W3 = w2.alloc (.cells #[.int .i64 Xs, .int .i64 Ys] 32) := ⟨_, rfl⟩
      rw [← hG] at F8 hw2 ⊢
      rw [← hW3] at F8 T8 F68 B8 ⊢
      have HB8 := Lib.hid B8
      have HF68 := Lib.hid F68
      clear hG hW3 HB2 HF62 HT2 B8
      cases ms
      · obtain ⟨c0, c1, f0, f1⟩ := F68
        clear F8 T8
        go_wp2_with fail
        refine bodyPost_ret ((F2.store ⟨c0, c1, f0, f1⟩ _ _).results rfl rfl rfl) rfl ?_
        have e0 := HN.out (.inr (.inr (by simp)))
        obtain ⟨e1, e2⟩ := HNo.out e0
        rw [e0, e1, e2]
        exact ⟨rfl, (HB8.out.setCell hw6 _).setCell hw6 _⟩
      · have hS8 : OT W3 w.heap.size 2 tc G 0 1 Xs Ys := ⟨T8.2.2, F8.1, F8.2.1⟩
        have l0 : w.heap.size + 2 < W3.heap.size := cell_lt F68.1
        have l1 : G < W3.heap.size := cell_lt F8.1
        have l2 : w.heap.size < W3.heap.size := cell_lt T8.1
        clear F8 T8 F68
        go_upto_region 8 with fail
        go_cut [5] (fun q wx => q = .bool rb ∧ F2 wx (w.heap.size + 2) R1 R2 ∧ Below w.heap.size w wx)
        case first =>
          go_region_held3 (fun w' => w'.cell? ⟨w.heap.size, 2, none⟩ = some (.int .i64 tc) ∧ w'.cell? ⟨G, 0, none⟩ = some (.int .i64 Xs) ∧ w'.cell? ⟨G, 1, none⟩ = some (.int .i64 Ys)) (repeat' (first | with_reducible assumption | with_reducible refine OT.below ?_ b2 | with_reducible refine OT.below ?_ b1 | with_reducible refine OT.drew ?_ | with_reducible refine OT.drewN ?_ _ | with_reducible refine OT.setAt ?_ ?_ _ _ | with_reducible refine OT.setN ?_ _ (by first | omega | (simp; omega)) (by first | omega | (simp; omega)) _ _ | with_reducible refine OT.alloc ?_ _)) (first | (go_at_call 95; refine (frIntO_any _ _).mono ?_; rintro e w1 ⟨rfl, b1⟩; have k1 := cellAt b1; have k2 := frozenAt b1; have Fw := Lib.hid (F2.below (w := _) (by exact HF68.out) b1)) | (go_at_call 96; refine (HA2.out (by simp) (by simp) (by simp) _).mono ?_; rintro e w4 ⟨rfl, b2⟩; obtain ⟨e0, e1, e2, e3⟩ := F2.below (w := _) (by exact Fw.out) b2))
          all_goals go_wp2_with fail
          all_goals go_meet
          all_goals exact ⟨rfl, F2.store ⟨e0, e1, e2, e3⟩ _ _, ((bel2 (bel2 HB8.out.drew b1) b2).setCell hw6 _).setCell hw6 _⟩
        case rest =>
          obtain ⟨rfl, F9, B9⟩ := hcut
          go_wp2_with fail
          refine bodyPost_ret (F9.results rfl rfl rfl) rfl ?_
          exact ⟨rfl, B9⟩
end Go.Proofs.Ythegkifhbgopoaa
