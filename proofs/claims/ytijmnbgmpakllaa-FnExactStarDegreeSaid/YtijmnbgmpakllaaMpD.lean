import Derived.Test.YtijmnbgmpakllaaMpA
/-
  The functions of two rays, in the program.
  No condition.
-/
namespace Go.Proofs.Ytijmnbgmpakllaa
set_option linter.unusedSimpArgs false
set_option linter.unusedVariables false
open Go.ChangeShapes Go.WideShapes Go.ChangeAt Go.RowKit
open Go.Sort (grow)

theorem implPairMultiplicity_any (s t : Tm) (w : World) : Calls Try.prog 16 #[tmV s, tmV t] w fun e w' => e = .returned (.tuple #[.int .i64 (pmV s t), .bool (pmB s t)]) ∧ Gr w w' := by
  have HS := Lib.hid (S6.new w s t 26 26)
  have HB := Lib.hid (gr_two w s t 26 26)
  have I1 := Lib.hid (fun W => isRay_any s W)
  have I2 := Lib.hid (fun W => isRay_any t W)
  cases h1 : ryT s
  · rw [h1] at I1
    obtain ⟨e1, e2, -⟩ := pm_no1 (b := t) h1
    rw [e1, e2]
    obtain ⟨a, b, c⟩ := s
    obtain ⟨a', b', c'⟩ := t
    clear h1 e1 e2
    go_enter Try.func16, Try.ntmps16
    go_wp2_with fail
    refine (I1.out _).mono ?_
    rintro e w1 ⟨rfl, g1⟩
    go_wp2
    go_ret2
    exact ⟨rfl, HB.out.trans g1⟩
  · rw [h1] at I1
    cases h2 : ryT t
    · rw [h2] at I2
      obtain ⟨e1, e2, -⟩ := pm_no2 (a := s) h2
      rw [e1, e2]
      obtain ⟨a, b, c⟩ := s
      obtain ⟨a', b', c'⟩ := t
      clear h1 h2 e1 e2
      go_enter Try.func16, Try.ntmps16
      go_wp2_with fail
      refine (I1.out _).mono ?_
      rintro e w1 ⟨rfl, g1⟩
      obtain ⟨-, -, -, d0, d1, d2⟩ := HS.out.below g1.below
      have hl1 := cell_lt d0
      go_wp2_with fail
      refine (I2.out _).mono ?_
      rintro e w2 ⟨rfl, g2⟩
      have B2 := HB.out.trans (g1.trans g2)
      clear d0 d1 d2 hl1 g1 g2
      go_wp2
      go_ret2
      exact ⟨rfl, B2⟩
    · rw [h2] at I2
      obtain ⟨e1, e2, -⟩ := pm_yes h1 h2
      rw [e1, e2]
      have I3 := Lib.hid (fun W => multOf_any s t W h1 h2)
      obtain ⟨u, hu⟩ : ∃ u, u = muR s t := ⟨_, rfl⟩
      rw [← hu] at I3 ⊢
      obtain ⟨a, b, c⟩ := s
      obtain ⟨a', b', c'⟩ := t
      clear h1 h2 e1 e2 hu
      go_enter Try.func16, Try.ntmps16
      go_wp2_with fail
      refine (I1.out _).mono ?_
      rintro e w1 ⟨rfl, g1⟩
      obtain ⟨-, -, -, d0, d1, d2⟩ := HS.out.below g1.below
      have hl1 := cell_lt d0
      go_wp2_with fail
      refine (I2.out _).mono ?_
      rintro e w2 ⟨rfl, g2⟩
      obtain ⟨c0, c1, c2, f0, f1, f2⟩ := HS.out.below (g1.trans g2).below
      have B2 := HB.out.trans (g1.trans g2)
      have hl2 := cell_lt c0
      have hl3 := cell_lt f0
      clear d0 d1 d2 hl1 g1 g2
      go_wp2_with fail
      refine (I3.out _).mono ?_
      rintro e w3 ⟨rfl, g3⟩
      have B3 := B2.trans g3
      clear c0 c1 c2 f0 f1 f2 hl2 hl3 g3 B2
      go_wp2
      go_ret2
      exact ⟨rfl, B3⟩
set_option maxHeartbeats 1000000 in
set_option maxRecDepth 100000 in
theorem implAreParallel_any (s t : Tm) (w : World) : Calls Try.prog 18 #[tmV s, tmV t] w fun e w' => e = .returned (.tuple #[.bool (pmP s t), .bool (pmB s t)]) ∧ Gr w w' := by
  have HS := Lib.hid (S6.new w s t 26 26)
  have HB := Lib.hid (gr_two w s t 26 26)
  have I1 := Lib.hid (fun W => isRay_any s W)
  have I2 := Lib.hid (fun W => isRay_any t W)
  cases h1 : ryT s
  · rw [h1] at I1
    obtain ⟨e1, -, e2⟩ := pm_no1 (b := t) h1
    rw [e1, e2]
    obtain ⟨a, b, c⟩ := s
    obtain ⟨a', b', c'⟩ := t
    clear h1 e1 e2
    go_enter Try.func18, Try.ntmps18
    go_wp2_with fail
    refine (I1.out _).mono ?_
    rintro e w1 ⟨rfl, g1⟩
    go_wp2
    go_ret2
    exact ⟨rfl, HB.out.trans g1⟩
  · rw [h1] at I1
    cases h2 : ryT t
    · rw [h2] at I2
      obtain ⟨e1, -, e2⟩ := pm_no2 (a := s) h2
      rw [e1, e2]
      obtain ⟨a, b, c⟩ := s
      obtain ⟨a', b', c'⟩ := t
      clear h1 h2 e1 e2
      go_enter Try.func18, Try.ntmps18
      go_wp2_with fail
      refine (I1.out _).mono ?_
      rintro e w1 ⟨rfl, g1⟩
      obtain ⟨-, -, -, d0, d1, d2⟩ := HS.out.below g1.below
      have hl1 := cell_lt d0
      go_wp2_with fail
      refine (I2.out _).mono ?_
      rintro e w2 ⟨rfl, g2⟩
      have B2 := HB.out.trans (g1.trans g2)
      clear d0 d1 d2 hl1 g1 g2
      go_wp2
      go_ret2
      exact ⟨rfl, B2⟩
    · rw [h2] at I2
      obtain ⟨e1, -, e2⟩ := pm_yes h1 h2
      rw [e1, e2]
      have HS1 := Lib.hid (fun W => stepsOf_any s W)
      have HS2 := Lib.hid (fun W => stepsOf_any t W)
      have HA := Lib.hid (fun W => show Calls Try.prog 53 #[ptV (soP s), ptV (soP t)] W fun e w' => e = .returned (.bool (decide (dtR s t = 0))) ∧ Gr W w' by
        obtain ⟨d1, d2, -⟩ := dt_bd h1 h2
        exact areAlong_any (soP s) (soP t) W (by unfold soP; dsimp only; omega) (by unfold soP; dsimp only; omega))
      generalize decide (dtR s t = 0) = u at HA ⊢
      generalize soP s = sp at HS1 HA
      generalize soP t = tp at HS2 HA
      obtain ⟨a, b, c⟩ := s
      obtain ⟨a', b', c'⟩ := t
      clear h1 h2 e1 e2
      go_enter Try.func18, Try.ntmps18
      go_wp2_with fail
      refine (I1.out _).mono ?_
      rintro e w1 ⟨rfl, g1⟩
      obtain ⟨-, -, -, d0, d1, d2⟩ := HS.out.below g1.below
      have hl1 := cell_lt d0
      go_wp2_with fail
      refine (I2.out _).mono ?_
      rintro e w2 ⟨rfl, g2⟩
      have h6 := HS.out.below (g1.trans g2).below
      obtain ⟨x0, x1, x2⟩ := T3.grown (t := (a, b, c)) ⟨h6.1, h6.2.1, h6.2.2.1⟩
      obtain ⟨y0, y1, y2⟩ := T3.grown (t := (a', b', c')) ⟨h6.2.2.2.1, h6.2.2.2.2.1, h6.2.2.2.2.2⟩
      have B2 := HB.out.trans (g1.trans g2)
      have hl2 := cell_lt h6.1
      have hl3 := cell_lt h6.2.2.2.1
      clear d0 d1 d2 hl1 g1 g2 h6
      go_wp2_with fail
      refine wp_region_quiet_grown (by kernel_rfl) (by kernel_rfl) ?_
      repeat (go_big_quiet_step ((first | (with_reducible exact Calls.grown_of (HS1.out _)) | (with_reducible exact Calls.grown_of (HS2.out _)) | (with_reducible exact Calls.grown_of (HA.out _)))))
      refine wpQuiet_nil ?_
      intro _ hw'
      obtain ⟨⟨nq, osq⟩, hw''⟩ := hw'
      subst hw''
      go_wp2
      go_ret2
      exact ⟨rfl, B2.trans ⟨nq, osq, rfl⟩⟩
theorem implMeetsWhenMoved_any (s t : Tm) (x y : Int) (w : World) : Calls Try.prog 20 #[tmV s, tmV t, .int .i64 x, .int .i64 y] w fun e w' => e = .returned (.tuple #[.bool (mwR s t x y), .bool (mwB s t x y)]) ∧ Gr w w' := by
  have HS := Lib.hid (S6.new w s t 26 26)
  have HB := Lib.hid (gr_two w s t 26 26)
  have I1 := Lib.hid (fun W => isRay_any s W)
  have I2 := Lib.hid (fun W => isRay_any t W)
  have I3 := Lib.hid (fun W => isMove_any x y W)
  cases h1 : ryT s
  · rw [h1] at I1
    obtain ⟨e1, e2⟩ := mw_no1 (b := t) (x := x) (y := y) h1
    rw [e1, e2]
    obtain ⟨a, b, c⟩ := s
    obtain ⟨a', b', c'⟩ := t
    clear h1 e1 e2
    go_enter Try.func20, Try.ntmps20
    go_wp2_with fail
    refine (I1.out _).mono ?_
    rintro e w1 ⟨rfl, g1⟩
    go_wp2
    go_ret2
    exact ⟨rfl, HB.out.trans g1⟩
  · rw [h1] at I1
    cases h2 : ryT t
    · rw [h2] at I2
      obtain ⟨e1, e2⟩ := mw_no2 (a := s) (x := x) (y := y) h2
      rw [e1, e2]
      obtain ⟨a, b, c⟩ := s
      obtain ⟨a', b', c'⟩ := t
      clear h1 h2 e1 e2
      go_enter Try.func20, Try.ntmps20
      go_wp2_with fail
      refine (I1.out _).mono ?_
      rintro e w1 ⟨rfl, g1⟩
      obtain ⟨-, -, -, d0, d1, d2⟩ := HS.out.below g1.below
      have hl1 := cell_lt d0
      go_wp2_with fail
      refine (I2.out _).mono ?_
      rintro e w2 ⟨rfl, g2⟩
      have B2 := HB.out.trans (g1.trans g2)
      clear d0 d1 d2 hl1 g1 g2
      go_wp2
      go_ret2
      exact ⟨rfl, B2⟩
    · rw [h2] at I2
      cases h3 : mvM x y
      · rw [h3] at I3
        obtain ⟨e1, e2⟩ := mw_no3 (a := s) (b := t) h3
        rw [e1, e2]
        obtain ⟨a, b, c⟩ := s
        obtain ⟨a', b', c'⟩ := t
        clear h1 h2 h3 e1 e2
        go_enter Try.func20, Try.ntmps20
        go_wp2_with fail
        refine (I1.out _).mono ?_
        rintro e w1 ⟨rfl, g1⟩
        obtain ⟨-, -, -, d0, d1, d2⟩ := HS.out.below g1.below
        have hl1 := cell_lt d0
        go_wp2_with fail
        refine (I2.out _).mono ?_
        rintro e w2 ⟨rfl, g2⟩
        have B2 := HB.out.trans (g1.trans g2)
        clear d0 d1 d2 hl1 g1 g2
        go_wp2_with fail
        refine (I3.out _).mono ?_
        rintro e w1 ⟨rfl, rfl⟩
        go_wp2
        go_ret2
        exact ⟨rfl, B2⟩
      · rw [h3] at I3
        obtain ⟨e1, e2⟩ := mw_yes h1 h2 h3
        rw [e1, e2]
        have I4 := Lib.hid (fun W => doMeet_any s t (x, y) W h1 h2 h3)
        have I4 := Lib.hid (fun W => show Calls Try.prog 58 #[tmV s, tmV t, ptV (x, y)] W fun e w' => e = .returned (.bool (meB s t x y)) ∧ Gr W w' from I4.out W)
        generalize meB s t x y = u at I4 ⊢
        obtain ⟨a, b, c⟩ := s
        obtain ⟨a', b', c'⟩ := t
        clear h1 h2 h3 e1 e2
        go_enter Try.func20, Try.ntmps20
        go_wp2_with fail
        refine (I1.out _).mono ?_
        rintro e w1 ⟨rfl, g1⟩
        obtain ⟨-, -, -, d0, d1, d2⟩ := HS.out.below g1.below
        have hl1 := cell_lt d0
        go_wp2_with fail
        refine (I2.out _).mono ?_
        rintro e w2 ⟨rfl, g2⟩
        obtain ⟨c0, c1, c2, f0, f1, f2⟩ := HS.out.below (g1.trans g2).below
        have B2 := HB.out.trans (g1.trans g2)
        have hl2 := cell_lt c0
        have hl3 := cell_lt f0
        clear d0 d1 d2 hl1 g1 g2
        go_wp2_with fail
        refine (I3.out _).mono ?_
        rintro e w1 ⟨rfl, rfl⟩
        go_wp2_with fail
        refine (I4.out _).mono ?_
        rintro e w3 ⟨rfl, g3⟩
        have B3 := B2.trans g3
        clear c0 c1 c2 f0 f1 f2 hl2 hl3 g3 B2
        go_wp2
        go_ret2
        exact ⟨rfl, B3⟩
end Go.Proofs.Ytijmnbgmpakllaa
