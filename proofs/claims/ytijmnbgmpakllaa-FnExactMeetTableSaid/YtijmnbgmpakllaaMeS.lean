import Derived.Test.YtijmnbgmpakllaaMeM
/-
  Pairs of rays in the model: determinants, multiplicities, what meets when a star is moved.
  No condition.
-/
namespace Go.Proofs.Ytijmnbgmpakllaa
set_option linter.unusedSimpArgs false
set_option linter.unusedVariables false
open Go.ChangeShapes Go.WideShapes Go.ChangeAt Go.RowKit
open Go.Sort (grow)

theorem gr_same (w : World) : Gr w w := ⟨0, #[], by rw [Sort.grow_empty]; rfl⟩
theorem gr_two (w : World) (t s : Tm) (T U : TypeId) : Gr w ((w.alloc (.cells #[.int .i64 t.1, .int .i64 t.2.1, .int .i64 t.2.2] T)).alloc (.cells #[.int .i64 s.1, .int .i64 s.2.1, .int .i64 s.2.2] U)) := gr2 w _ _
theorem l1SignM_any (n : Int) (w : World) : Calls Try.prog 80 #[.int .i64 n] w fun e w' => e = .returned (.int .i64 (sgM n)) ∧ w = w' := by
  unfold sgM
  by_cases h : n < 0
  · rw [if_pos h]
    go_enter Try.func80, Try.ntmps80
    go_wp2
    go_ret
    exact ⟨rfl, rfl⟩
  · rw [if_neg h]
    by_cases h' : 0 < n
    · rw [if_pos h']
      go_enter Try.func80, Try.ntmps80
      go_wp2
      go_ret
      exact ⟨rfl, rfl⟩
    · rw [if_neg h']
      go_enter Try.func80, Try.ntmps80
      go_wp2
      go_ret
      exact ⟨rfl, rfl⟩
theorem mtDet_any (s t : Tm) (w : World) (hs : ryT s = true) (ht : ryT t = true) : Calls Try.prog 52 #[tmV s, tmV t] w fun e w' => e = .returned (.int .i64 (dtR s t)) ∧ Gr w w' := by
  obtain ⟨h1, h2, h3⟩ := dt_bd hs ht
  clear hs ht
  unfold dtR at h3 ⊢
  obtain ⟨a, b, c⟩ := s
  obtain ⟨a', b', c'⟩ := t
  dsimp only at h1 h2 h3 ⊢
  have q1 : IntKind.i64.wrap (a * b') = a * b' := IntWalk.i64_in _ (by omega)
  have q2 : IntKind.i64.wrap (b * a') = b * a' := IntWalk.i64_in _ (by omega)
  have q3 : IntKind.i64.wrap (a * b' - b * a') = a * b' - b * a' := IntWalk.i64_in _ (by omega)
  clear h1 h2 h3
  go_enter Try.func52, Try.ntmps52
  go_wp2
  go_ret
  exact ⟨rfl, gr2 _ _ _⟩
theorem mtTwo_any (s t : Tm) (w : World) (hs : ryT s = true) (ht : ryT t = true) : Calls Try.prog 49 #[tmV s, tmV t] w fun e w' => e = .returned (.int .i64 (muR s t)) ∧ Gr w w' := by
  have hS := S6.new w s t 26 26
  obtain ⟨h1, h2, h3⟩ := dt_bd hs ht
  obtain ⟨m1, m2⟩ := mu_bd hs ht
  have HD := Lib.hid (fun W => mtDet_any s t W hs ht)
  have HA := Lib.hid (fun W => show Calls Try.prog 75 #[.int .i64 (dtR s t)] W fun e w' => e = .returned (.int .i64 ((dtR s t).natAbs : Int)) ∧ Gr W w' from (l1Abs_any (dtR s t) W (by unfold wide; omega)).mono fun e w' h => ⟨h.1, h.2 ▸ gr_same W⟩)
  clear hs ht
  unfold muR at m2 ⊢
  obtain ⟨d, hd⟩ : ∃ d, d = dtR s t := ⟨_, rfl⟩
  rw [← hd] at HD HA m2 ⊢
  obtain ⟨n, hn⟩ : ∃ n, n = (d.natAbs : Int) := ⟨_, rfl⟩
  rw [← hn] at HA m2 ⊢
  clear h1 h2 h3 hn hd
  obtain ⟨a, b, c⟩ := s
  obtain ⟨a', b', c'⟩ := t
  dsimp only at m1 m2 hS ⊢
  have q1 : IntKind.i64.wrap (c * c') = c * c' := IntWalk.i64_in _ (by omega)
  have q2 : IntKind.i64.wrap (c * c' * n) = c * c' * n := IntWalk.i64_in _ (by omega)
  have hG := gr2 w (.cells #[.int .i64 a, .int .i64 b, .int .i64 c] 26) (.cells #[.int .i64 a', .int .i64 b', .int .i64 c'] 26)
  clear m1 m2
  go_enter Try.func49, Try.ntmps49
  go_upto_region 1 with fail
  generalize (w.alloc (.cells #[.int .i64 a, .int .i64 b, .int .i64 c] 26)).alloc (.cells #[.int .i64 a', .int .i64 b', .int .i64 c'] 26) = W0 at hS hG ⊢
  obtain ⟨x0, x1, x2⟩ := T3.grown (t := (a, b, c)) ⟨hS.1, hS.2.1, hS.2.2.1⟩
  obtain ⟨y0, y1, y2⟩ := T3.grown (t := (a', b', c')) ⟨hS.2.2.2.1, hS.2.2.2.2.1, hS.2.2.2.2.2⟩
  have l1 := cell_lt hS.1
  have l2 := cell_lt hS.2.2.2.1
  refine wp_region_quiet_grown (by kernel_rfl) (by kernel_rfl) ?_
  repeat (go_big_quiet_step ((first | (go_at_call 52; refine Calls.grown_of (HD.out _)) | (go_at_call 75; refine Calls.grown_of (HA.out _)))))
  refine wpQuiet_nil ?_
  intro _ hw'
  obtain ⟨⟨nq, osq⟩, hw''⟩ := hw'
  subst hw''
  go_wp2
  go_ret
  exact ⟨rfl, hG.trans ⟨nq, osq, rfl⟩⟩
theorem specPairMultiplicity_any (s t : Tm) (w : World) : Calls Try.prog 14 #[tmV s, tmV t] w fun e w' => e = .returned (.tuple #[.int .i64 (pmV s t), .bool (pmB s t)]) ∧ Gr w w' := by
  have HS := Lib.hid (S6.new w s t 26 26)
  have HB := Lib.hid (gr_two w s t 26 26)
  have I1 := Lib.hid (fun W => stRay_any s W)
  have I2 := Lib.hid (fun W => stRay_any t W)
  cases h1 : ryT s
  · rw [h1] at I1
    obtain ⟨e1, e2, -⟩ := pm_no1 (b := t) h1
    rw [e1, e2]
    obtain ⟨a, b, c⟩ := s
    obtain ⟨a', b', c'⟩ := t
    clear h1 e1 e2
    go_enter Try.func14, Try.ntmps14
    go_wp2_with fail
    refine (I1.out _).mono ?_
    rintro e w1 ⟨rfl, g1⟩
    go_wp2
    go_ret2
    exact ⟨rfl, HB.out.trans g1⟩
  · rw [h1] at I1
    cases h2 : ryT t
    · rw [h2] at I2
      obtain ⟨e1, e2, -⟩ := pm_no2 (a := s) h2
      rw [e1, e2]
      obtain ⟨a, b, c⟩ := s
      obtain ⟨a', b', c'⟩ := t
      clear h1 h2 e1 e2
      go_enter Try.func14, Try.ntmps14
      go_wp2_with fail
      refine (I1.out _).mono ?_
      rintro e w1 ⟨rfl, g1⟩
      obtain ⟨-, -, -, d0, d1, d2⟩ := HS.out.below g1.below
      have hl1 := cell_lt d0
      go_wp2_with fail
      refine (I2.out _).mono ?_
      rintro e w2 ⟨rfl, g2⟩
      have B2 := HB.out.trans (g1.trans g2)
      clear d0 d1 d2 hl1 g1 g2
      go_wp2
      go_ret2
      exact ⟨rfl, B2⟩
    · rw [h2] at I2
      obtain ⟨e1, e2, -⟩ := pm_yes h1 h2
      rw [e1, e2]
      have I3 := Lib.hid (fun W => mtTwo_any s t W h1 h2)
      obtain ⟨u, hu⟩ : ∃ u, u = muR s t := ⟨_, rfl⟩
      rw [← hu] at I3 ⊢
      obtain ⟨a, b, c⟩ := s
      obtain ⟨a', b', c'⟩ := t
      clear h1 h2 e1 e2 hu
      go_enter Try.func14, Try.ntmps14
      go_wp2_with fail
      refine (I1.out _).mono ?_
      rintro e w1 ⟨rfl, g1⟩
      obtain ⟨-, -, -, d0, d1, d2⟩ := HS.out.below g1.below
      have hl1 := cell_lt d0
      go_wp2_with fail
      refine (I2.out _).mono ?_
      rintro e w2 ⟨rfl, g2⟩
      obtain ⟨c0, c1, c2, f0, f1, f2⟩ := HS.out.below (g1.trans g2).below
      have B2 := HB.out.trans (g1.trans g2)
      have hl2 := cell_lt c0
      have hl3 := cell_lt f0
      clear d0 d1 d2 hl1 g1 g2
      go_wp2_with fail
      refine (I3.out _).mono ?_
      rintro e w3 ⟨rfl, g3⟩
      have B3 := B2.trans g3
      clear c0 c1 c2 f0 f1 f2 hl2 hl3 g3 B2
      go_wp2
      go_ret2
      exact ⟨rfl, B3⟩
theorem par_ret (u : Int) : (Ending.returned (.tuple #[.bool (u == 0), .bool true])) = .returned (.tuple #[.bool (decide (u = 0)), .bool true]) := by rw [show (u == 0) = decide (u = 0) from rfl]
theorem specAreParallel_any (s t : Tm) (w : World) : Calls Try.prog 17 #[tmV s, tmV t] w fun e w' => e = .returned (.tuple #[.bool (pmP s t), .bool (pmB s t)]) ∧ Gr w w' := by
  have HS := Lib.hid (S6.new w s t 26 26)
  have HB := Lib.hid (gr_two w s t 26 26)
  have I1 := Lib.hid (fun W => stRay_any s W)
  have I2 := Lib.hid (fun W => stRay_any t W)
  cases h1 : ryT s
  · rw [h1] at I1
    obtain ⟨e1, -, e2⟩ := pm_no1 (b := t) h1
    rw [e1, e2]
    obtain ⟨a, b, c⟩ := s
    obtain ⟨a', b', c'⟩ := t
    clear h1 e1 e2
    go_enter Try.func17, Try.ntmps17
    go_wp2_with fail
    refine (I1.out _).mono ?_
    rintro e w1 ⟨rfl, g1⟩
    go_wp2
    go_ret2
    exact ⟨rfl, HB.out.trans g1⟩
  · rw [h1] at I1
    cases h2 : ryT t
    · rw [h2] at I2
      obtain ⟨e1, -, e2⟩ := pm_no2 (a := s) h2
      rw [e1, e2]
      obtain ⟨a, b, c⟩ := s
      obtain ⟨a', b', c'⟩ := t
      clear h1 h2 e1 e2
      go_enter Try.func17, Try.ntmps17
      go_wp2_with fail
      refine (I1.out _).mono ?_
      rintro e w1 ⟨rfl, g1⟩
      obtain ⟨-, -, -, d0, d1, d2⟩ := HS.out.below g1.below
      have hl1 := cell_lt d0
      go_wp2_with fail
      refine (I2.out _).mono ?_
      rintro e w2 ⟨rfl, g2⟩
      have B2 := HB.out.trans (g1.trans g2)
      clear d0 d1 d2 hl1 g1 g2
      go_wp2
      go_ret2
      exact ⟨rfl, B2⟩
    · rw [h2] at I2
      obtain ⟨e1, -, e2⟩ := pm_yes h1 h2
      rw [e1, e2]
      have I3 := Lib.hid (fun W => mtDet_any s t W h1 h2)
      obtain ⟨u, hu⟩ : ∃ u, u = dtR s t := ⟨_, rfl⟩
      rw [← hu] at I3 ⊢
      obtain ⟨a, b, c⟩ := s
      obtain ⟨a', b', c'⟩ := t
      clear h1 h2 e1 e2 hu
      go_enter Try.func17, Try.ntmps17
      go_wp2_with fail
      refine (I1.out _).mono ?_
      rintro e w1 ⟨rfl, g1⟩
      obtain ⟨-, -, -, d0, d1, d2⟩ := HS.out.below g1.below
      have hl1 := cell_lt d0
      go_wp2_with fail
      refine (I2.out _).mono ?_
      rintro e w2 ⟨rfl, g2⟩
      obtain ⟨c0, c1, c2, f0, f1, f2⟩ := HS.out.below (g1.trans g2).below
      have B2 := HB.out.trans (g1.trans g2)
      have hl2 := cell_lt c0
      have hl3 := cell_lt f0
      clear d0 d1 d2 hl1 g1 g2
      go_wp2_with fail
      refine (I3.out _).mono ?_
      rintro e w3 ⟨rfl, g3⟩
      have B3 := B2.trans g3
      clear c0 c1 c2 f0 f1 f2 hl2 hl3 g3 B2
      go_wp2
      go_ret2
      exact ⟨par_ret u, B3⟩
theorem mtMove_any (x y : Int) (w : World) : Calls Try.prog 55 #[.int .i64 x, .int .i64 y] w fun e w' => e = .returned (.bool (mvM x y)) ∧ w = w' := by
  have I1 := Lib.hid (fun W => l1In_any x (-1000) 1000 W)
  have I2 := Lib.hid (fun W => l1In_any y (-1000) 1000 W)
  have HR := Lib.hid (show mvM x y = (inB x (-1000) 1000 && (inB y (-1000) 1000 && (decide (x ≠ 0) || decide (y ≠ 0)))) from rfl)
  rw [HR.out]
  generalize inB x (-1000) 1000 = p at I1 ⊢
  generalize inB y (-1000) 1000 = q at I2 ⊢
  clear HR
  cases p
  · go_enter Try.func55, Try.ntmps55
    go_wp2_with fail
    refine (I1.out _).mono ?_
    rintro e w1 ⟨rfl, rfl⟩
    go_wp2
    go_ret
    exact ⟨rfl, rfl⟩
  · cases q
    · go_enter Try.func55, Try.ntmps55
      go_wp2_with fail
      refine (I1.out _).mono ?_
      rintro e w1 ⟨rfl, rfl⟩
      go_wp2_with fail
      refine (I2.out _).mono ?_
      rintro e w1 ⟨rfl, rfl⟩
      go_wp2
      go_ret
      exact ⟨rfl, rfl⟩
    · by_cases hx : x = 0
      · subst hx
        by_cases hy : y = 0
        · subst hy
          go_enter Try.func55, Try.ntmps55
          go_wp2_with fail
          refine (I1.out _).mono ?_
          rintro e w1 ⟨rfl, rfl⟩
          go_wp2_with fail
          refine (I2.out _).mono ?_
          rintro e w1 ⟨rfl, rfl⟩
          go_wp2
          go_ret
          exact ⟨rfl, rfl⟩
        · have hy1 : (y == 0) = false := by simpa using hy
          go_enter Try.func55, Try.ntmps55
          go_wp2_with fail
          refine (I1.out _).mono ?_
          rintro e w1 ⟨rfl, rfl⟩
          go_wp2_with fail
          refine (I2.out _).mono ?_
          rintro e w1 ⟨rfl, rfl⟩
          go_wp2
          go_ret
          exact ⟨ret_bool (by simp [hy]), rfl⟩
      · have hx1 : (x == 0) = false := by simpa using hx
        go_enter Try.func55, Try.ntmps55
        go_wp2_with fail
        refine (I1.out _).mono ?_
        rintro e w1 ⟨rfl, rfl⟩
        go_wp2_with fail
        refine (I2.out _).mono ?_
        rintro e w1 ⟨rfl, rfl⟩
        go_wp2
        go_ret
        exact ⟨ret_bool (by simp [hx]), rfl⟩
theorem mtMeets_any (s t : Tm) (x y : Int) (w : World) (hs : ryT s = true) (ht : ryT t = true) (hm : mvM x y = true) : Calls Try.prog 56 #[tmV s, tmV t, .int .i64 x, .int .i64 y] w fun e w' => e = .returned (.bool (meB s t x y)) ∧ Gr w w' := by
  have HS := Lib.hid (S6.new w s t 26 26)
  have HB := Lib.hid (gr_two w s t 26 26)
  obtain ⟨hx, hy, -⟩ := (mvM_iff x y).1 hm
  obtain ⟨a1, a2, a3⟩ := mv_bd hs hx hy
  obtain ⟨b1, b2, b3⟩ := mv_bd ht hx hy
  have HD := Lib.hid (fun W => mtDet_any s t W hs ht)
  have I1 := Lib.hid (fun W => l1SignM_any (dtR s t) W)
  have I2 := Lib.hid (fun W => l1SignM_any (mvX x y t) W)
  have I3 := Lib.hid (fun W => l1SignM_any (mvX x y s) W)
  have HR := Lib.hid (show meB s t x y = (decide (sgM (dtR s t) ≠ 0) && (decide (sgM (mvX x y t) = sgM (dtR s t)) && decide (sgM (mvX x y s) = sgM (dtR s t)))) from rfl)
  rw [HR.out]
  clear HR hs ht hm hx hy
  generalize dtR s t = D at HD I1 ⊢
  unfold mvX at a3 b3 I2 I3 ⊢
  obtain ⟨a, b, c⟩ := s
  obtain ⟨a', b', c'⟩ := t
  dsimp only at a1 a2 a3 b1 b2 b3 I2 I3 ⊢
  have q1 : IntKind.i64.wrap (x * b') = x * b' := IntWalk.i64_in _ (by omega)
  have q2 : IntKind.i64.wrap (y * a') = y * a' := IntWalk.i64_in _ (by omega)
  have q3 : IntKind.i64.wrap (x * b' - y * a') = x * b' - y * a' := IntWalk.i64_in _ (by omega)
  have q4 : IntKind.i64.wrap (x * b) = x * b := IntWalk.i64_in _ (by omega)
  have q5 : IntKind.i64.wrap (y * a) = y * a := IntWalk.i64_in _ (by omega)
  have q6 : IntKind.i64.wrap (x * b - y * a) = x * b - y * a := IntWalk.i64_in _ (by omega)
  clear a1 a2 a3 b1 b2 b3
  generalize sgM D = d at I1 ⊢
  generalize sgM (x * b' - y * a') = p at I2 ⊢
  generalize sgM (x * b - y * a) = r at I3 ⊢
  by_cases h0 : d = 0
  · subst h0
    go_enter Try.func56, Try.ntmps56
    go_wp2_with fail
    refine (HD.out _).mono ?_
    rintro e w1 ⟨rfl, g1⟩
    go_wp2_with fail
    refine (I1.out _).mono ?_
    rintro e w1 ⟨rfl, rfl⟩
    go_wp2
    go_ret
    exact ⟨rfl, HB.out.trans g1⟩
  · have h01 : (d == 0) = false := by simpa using h0
    by_cases hp : p = d
    · subst hp
      go_enter Try.func56, Try.ntmps56
      go_wp2_with fail
      refine (HD.out _).mono ?_
      rintro e w1 ⟨rfl, g1⟩
      obtain ⟨c0, c1, c2, d0, d1, d2⟩ := HS.out.below g1.below
      have hl1 := cell_lt c0
      have hl2 := cell_lt d0
      go_wp2_with fail
      refine (I1.out _).mono ?_
      rintro e w1 ⟨rfl, rfl⟩
      go_wp2_with fail
      refine (I2.out _).mono ?_
      rintro e w1 ⟨rfl, rfl⟩
      go_wp2_with fail
      refine (I3.out _).mono ?_
      rintro e w1 ⟨rfl, rfl⟩
      go_wp2
      go_ret
      exact ⟨ret_bool (by rw [show (p != 0) = true by simp [bne, h01]]; simp [h0]; try rfl), HB.out.trans g1⟩
    · have hp1 : (p == d) = false := by simpa using hp
      go_enter Try.func56, Try.ntmps56
      go_wp2_with fail
      refine (HD.out _).mono ?_
      rintro e w1 ⟨rfl, g1⟩
      obtain ⟨c0, c1, c2, d0, d1, d2⟩ := HS.out.below g1.below
      have hl1 := cell_lt c0
      have hl2 := cell_lt d0
      go_wp2_with fail
      refine (I1.out _).mono ?_
      rintro e w1 ⟨rfl, rfl⟩
      go_wp2_with fail
      refine (I2.out _).mono ?_
      rintro e w1 ⟨rfl, rfl⟩
      go_wp2
      go_ret
      exact ⟨ret_bool (by simp [hp]), HB.out.trans g1⟩
theorem specMeetsWhenMoved_any (s t : Tm) (x y : Int) (w : World) : Calls Try.prog 19 #[tmV s, tmV t, .int .i64 x, .int .i64 y] w fun e w' => e = .returned (.tuple #[.bool (mwR s t x y), .bool (mwB s t x y)]) ∧ Gr w w' := by
  have HS := Lib.hid (S6.new w s t 26 26)
  have HB := Lib.hid (gr_two w s t 26 26)
  have I1 := Lib.hid (fun W => stRay_any s W)
  have I2 := Lib.hid (fun W => stRay_any t W)
  have I3 := Lib.hid (fun W => mtMove_any x y W)
  cases h1 : ryT s
  · rw [h1] at I1
    obtain ⟨e1, e2⟩ := mw_no1 (b := t) (x := x) (y := y) h1
    rw [e1, e2]
    obtain ⟨a, b, c⟩ := s
    obtain ⟨a', b', c'⟩ := t
    clear h1 e1 e2
    go_enter Try.func19, Try.ntmps19
    go_wp2_with fail
    refine (I1.out _).mono ?_
    rintro e w1 ⟨rfl, g1⟩
    go_wp2
    go_ret2
    exact ⟨rfl, HB.out.trans g1⟩
  · rw [h1] at I1
    cases h2 : ryT t
    · rw [h2] at I2
      obtain ⟨e1, e2⟩ := mw_no2 (a := s) (x := x) (y := y) h2
      rw [e1, e2]
      obtain ⟨a, b, c⟩ := s
      obtain ⟨a', b', c'⟩ := t
      clear h1 h2 e1 e2
      go_enter Try.func19, Try.ntmps19
      go_wp2_with fail
      refine (I1.out _).mono ?_
      rintro e w1 ⟨rfl, g1⟩
      obtain ⟨-, -, -, d0, d1, d2⟩ := HS.out.below g1.below
      have hl1 := cell_lt d0
      go_wp2_with fail
      refine (I2.out _).mono ?_
      rintro e w2 ⟨rfl, g2⟩
      have B2 := HB.out.trans (g1.trans g2)
      clear d0 d1 d2 hl1 g1 g2
      go_wp2
      go_ret2
      exact ⟨rfl, B2⟩
    · rw [h2] at I2
      cases h3 : mvM x y
      · rw [h3] at I3
        obtain ⟨e1, e2⟩ := mw_no3 (a := s) (b := t) h3
        rw [e1, e2]
        obtain ⟨a, b, c⟩ := s
        obtain ⟨a', b', c'⟩ := t
        clear h1 h2 h3 e1 e2
        go_enter Try.func19, Try.ntmps19
        go_wp2_with fail
        refine (I1.out _).mono ?_
        rintro e w1 ⟨rfl, g1⟩
        obtain ⟨-, -, -, d0, d1, d2⟩ := HS.out.below g1.below
        have hl1 := cell_lt d0
        go_wp2_with fail
        refine (I2.out _).mono ?_
        rintro e w2 ⟨rfl, g2⟩
        have B2 := HB.out.trans (g1.trans g2)
        clear d0 d1 d2 hl1 g1 g2
        go_wp2_with fail
        refine (I3.out _).mono ?_
        rintro e w1 ⟨rfl, rfl⟩
        go_wp2
        go_ret2
        exact ⟨rfl, B2⟩
      · rw [h3] at I3
        obtain ⟨e1, e2⟩ := mw_yes h1 h2 h3
        rw [e1, e2]
        have I4 := Lib.hid (fun W => mtMeets_any s t x y W h1 h2 h3)
        generalize meB s t x y = u at I4 ⊢
        obtain ⟨a, b, c⟩ := s
        obtain ⟨a', b', c'⟩ := t
        clear h1 h2 h3 e1 e2
        go_enter Try.func19, Try.ntmps19
        go_wp2_with fail
        refine (I1.out _).mono ?_
        rintro e w1 ⟨rfl, g1⟩
        obtain ⟨-, -, -, d0, d1, d2⟩ := HS.out.below g1.below
        have hl1 := cell_lt d0
        go_wp2_with fail
        refine (I2.out _).mono ?_
        rintro e w2 ⟨rfl, g2⟩
        obtain ⟨c0, c1, c2, f0, f1, f2⟩ := HS.out.below (g1.trans g2).below
        have B2 := HB.out.trans (g1.trans g2)
        have hl2 := cell_lt c0
        have hl3 := cell_lt f0
        clear d0 d1 d2 hl1 g1 g2
        go_wp2_with fail
        refine (I3.out _).mono ?_
        rintro e w1 ⟨rfl, rfl⟩
        go_wp2_with fail
        refine (I4.out _).mono ?_
        rintro e w3 ⟨rfl, g3⟩
        have B3 := B2.trans g3
        clear c0 c1 c2 f0 f1 f2 hl2 hl3 g3 B2
        go_wp2
        go_ret2
        exact ⟨rfl, B3⟩
theorem mtFree_any (w : World) (B : Nat) (v : Value) (l : List Tm) (x y : Int) (h : RyS w B v l) (hl : ryB l = true) (hm : mvM x y = true) : Calls Try.prog 83 #[v, .int .i64 x, .int .i64 y] w fun e w' => e = .returned (.bool (frL1 l x y)) ∧ Below w.heap.size w w' := by
  obtain ⟨A, cap, rfl, hmx, hp⟩ := RyS.parts h
  have HP := Lib.hid hp
  obtain ⟨n, hn⟩ : ∃ n, n = l.length := ⟨_, rfl⟩
  have HN := Lib.hid hn
  have hle := ryB_le hl
  have HL := Lib.hid hl
  have HM := Lib.hid ((mvM_iff x y).1 hm)
  rw [← hn] at hmx hle ⊢
  clear hp h hn hmx hl hm
  go_enter Try.func83, Try.ntmps83
  go_wp2
  go_loopw [11] (fun i wr => ∃ k : Nat, k ≤ n ∧ i = .int .i64 k ∧ Hid (∀ j, j < k → mvX x y (td l j) ≠ 0) ∧ Below w.heap.size w wr) (fun i _ => n - (intOf i).toNat)
  case atStart => exact ⟨0, by omega, rfl, Lib.hid fun j hj => by omega, Below.refl _ _⟩
  case round =>
    obtain ⟨k, hk, rfl, hst, hb⟩ := hrel
    by_cases hlt : k < n
    · have hkl : k < l.length := by rw [← HN.out]; exact hlt
      obtain ⟨g, rfl, hc0⟩ := HP.out k hkl
      have hc := X3.below (hc0) hb
      obtain ⟨s1, s2, s3⟩ := mv_bd (ryB_at HL.out hkl) HM.out.1 HM.out.2.1
      have HT := Lib.hid (show mvX x y (td l k) ≠ 0 → ∀ j, j < k + 1 → mvX x y (td l j) ≠ 0 from fun h0 j hj => by
        rcases Nat.lt_or_ge j k with q | q
        · exact hst.out j q
        · obtain rfl : j = k := by omega
          exact h0)
      have HF := Lib.hid (show mvX x y (td l k) = 0 → frL1 l x y = false from fun h0 => frL1_no hkl h0)
      unfold mvX at s3
      generalize td l k = t at hc s1 s2 s3 HT HF
      obtain ⟨a, b, c⟩ := t
      dsimp only at hc s1 s2 s3 HT HF
      have q1 : IntKind.i64.wrap (x * b) = x * b := IntWalk.i64_in _ (by omega)
      have q2 : IntKind.i64.wrap (y * a) = y * a := IntWalk.i64_in _ (by omega)
      obtain ⟨c0, c1, c2⟩ := hc
      have hbA := hb.alloc hb.size (.cells #[.int .i64 a, .int .i64 b, .int .i64 c] 26)
      have hgl : g < wr.heap.size := cell_lt c0
      clear hc0 s1 s2 s3
      by_cases h0 : x * b = y * a
      · have h01 : (x * b == y * a) = true := by simpa using h0
        have hf := HF.out (by unfold mvX; dsimp only; omega)
        go_wp2
        go_ret
        exact ⟨by first | rfl | exact ret_bool hf.symm, hbA⟩
      · have h01 : (x * b == y * a) = false := by simpa using h0
        have hf := Lib.hid (HT.out (by unfold mvX; dsimp only; omega))
        go_wp2
        go_roundw
        case rel => exact ⟨k + 1, by omega, by go_num, hf, hbA⟩
        case measure => simp [intOf]; omega
    · obtain rfl : k = n := by omega
      have hf := frL1_yes (l := l) (x := x) (y := y) (fun j hj => hst.out j (by rw [HN.out]; exact hj))
      go_wp2
      go_ret
      exact ⟨by first | rfl | exact ret_bool hf.symm, hb⟩
theorem asB_no {a b : List Tm} {x y : Int} (h : ryB a = false ∨ ryB b = false ∨ mvM x y = false ∨ frL1 a x y = false ∨ frL1 b x y = false) : asB a b x y = false := by
  unfold asB
  rcases h with h | h | h | h | h <;> simp [h]
theorem asB_yes {a b : List Tm} {x y : Int} (h1 : ryB a = true) (h2 : ryB b = true) (h3 : mvM x y = true) (h4 : frL1 a x y = true) (h5 : frL1 b x y = true) : asB a b x y = true := by
  unfold asB
  simp [h1, h2, h3, h4, h5]
theorem asB_parts {a b : List Tm} {x y : Int} (h : asB a b x y = true) : ryB a = true ∧ ryB b = true ∧ mvM x y = true ∧ frL1 a x y = true ∧ frL1 b x y = true := by
  unfold asB at h
  simpa using h
theorem mtAsked_any (w : World) (B1 B2 : Nat) (v1 v2 : Value) (a b : List Tm) (x y : Int) (h1 : RyS w B1 v1 a) (h2 : RyS w B2 v2 b) : Calls Try.prog 59 #[v1, v2, .int .i64 x, .int .i64 y] w fun e w' => e = .returned (.bool (asB a b x y)) ∧ Below w.heap.size w w' := by
  have H1 := Lib.hid h1
  have H2 := Lib.hid h2
  obtain ⟨A1, c1, rfl, -, -⟩ := RyS.parts h1
  obtain ⟨A2, c2, rfl, -, -⟩ := RyS.parts h2
  clear h1 h2
  cases g0 : ryB a
  · have G0 := Lib.hid g0
    clear g0
    go_enter Try.func59, Try.ntmps59
    go_wp2_with fail
    refine (stGood_any _ B1 _ a (FS.below H1.out (Below.refl _ _))).mono ?_
    rintro e x0 ⟨rfl, b0⟩
    have bb := b0
    rw [G0.out]
    go_wp2
    go_ret
    exact ⟨ret_bool (asB_no (.inl G0.out)).symm, bb⟩
  · have G0 := Lib.hid g0
    clear g0
    cases g1 : ryB b
    · have G1 := Lib.hid g1
      clear g1
      go_enter Try.func59, Try.ntmps59
      go_wp2_with fail
      refine (stGood_any _ B1 _ a (FS.below H1.out (Below.refl _ _))).mono ?_
      rintro e x0 ⟨rfl, b0⟩
      have bb := b0
      rw [G0.out]
      go_wp2_with fail
      refine (stGood_any _ B2 _ b (FS.below H2.out bb)).mono ?_
      rintro e x1 ⟨rfl, b1⟩
      replace bb := bel2 bb b1
      rw [G1.out]
      go_wp2
      go_ret
      exact ⟨ret_bool (asB_no (.inr (.inl G1.out))).symm, bb⟩
    · have G1 := Lib.hid g1
      clear g1
      cases g2 : mvM x y
      · have G2 := Lib.hid g2
        clear g2
        go_enter Try.func59, Try.ntmps59
        go_wp2_with fail
        refine (stGood_any _ B1 _ a (FS.below H1.out (Below.refl _ _))).mono ?_
        rintro e x0 ⟨rfl, b0⟩
        have bb := b0
        rw [G0.out]
        go_wp2_with fail
        refine (stGood_any _ B2 _ b (FS.below H2.out bb)).mono ?_
        rintro e x1 ⟨rfl, b1⟩
        replace bb := bel2 bb b1
        rw [G1.out]
        go_wp2_with fail
        refine (mtMove_any x y _).mono ?_
        rintro e w9 ⟨rfl, rfl⟩
        rw [G2.out]
        go_wp2
        go_ret
        exact ⟨ret_bool (asB_no (.inr (.inr (.inl G2.out)))).symm, bb⟩
      · have G2 := Lib.hid g2
        clear g2
        cases g3 : frL1 a x y
        · have G3 := Lib.hid g3
          clear g3
          go_enter Try.func59, Try.ntmps59
          go_wp2_with fail
          refine (stGood_any _ B1 _ a (FS.below H1.out (Below.refl _ _))).mono ?_
          rintro e x0 ⟨rfl, b0⟩
          have bb := b0
          rw [G0.out]
          go_wp2_with fail
          refine (stGood_any _ B2 _ b (FS.below H2.out bb)).mono ?_
          rintro e x1 ⟨rfl, b1⟩
          replace bb := bel2 bb b1
          rw [G1.out]
          go_wp2_with fail
          refine (mtMove_any x y _).mono ?_
          rintro e w9 ⟨rfl, rfl⟩
          rw [G2.out]
          go_wp2_with fail
          refine (mtFree_any _ B1 _ a x y (FS.below H1.out bb) G0.out G2.out).mono ?_
          rintro e x3 ⟨rfl, b3⟩
          replace bb := bel2 bb b3
          rw [G3.out]
          go_wp2
          go_ret
          exact ⟨ret_bool (asB_no (.inr (.inr (.inr (.inl G3.out))))).symm, bb⟩
        · have G3 := Lib.hid g3
          clear g3
          cases g4 : frL1 b x y
          · have G4 := Lib.hid g4
            clear g4
            go_enter Try.func59, Try.ntmps59
            go_wp2_with fail
            refine (stGood_any _ B1 _ a (FS.below H1.out (Below.refl _ _))).mono ?_
            rintro e x0 ⟨rfl, b0⟩
            have bb := b0
            rw [G0.out]
            go_wp2_with fail
            refine (stGood_any _ B2 _ b (FS.below H2.out bb)).mono ?_
            rintro e x1 ⟨rfl, b1⟩
            replace bb := bel2 bb b1
            rw [G1.out]
            go_wp2_with fail
            refine (mtMove_any x y _).mono ?_
            rintro e w9 ⟨rfl, rfl⟩
            rw [G2.out]
            go_wp2_with fail
            refine (mtFree_any _ B1 _ a x y (FS.below H1.out bb) G0.out G2.out).mono ?_
            rintro e x3 ⟨rfl, b3⟩
            replace bb := bel2 bb b3
            rw [G3.out]
            go_wp2_with fail
            refine (mtFree_any _ B2 _ b x y (FS.below H2.out bb) G1.out G2.out).mono ?_
            rintro e x4 ⟨rfl, b4⟩
            replace bb := bel2 bb b4
            rw [G4.out]
            go_wp2
            go_ret
            exact ⟨ret_bool (asB_no (.inr (.inr (.inr (.inr G4.out))))).symm, bb⟩
          · have G4 := Lib.hid g4
            clear g4
            go_enter Try.func59, Try.ntmps59
            go_wp2_with fail
            refine (stGood_any _ B1 _ a (FS.below H1.out (Below.refl _ _))).mono ?_
            rintro e x0 ⟨rfl, b0⟩
            have bb := b0
            rw [G0.out]
            go_wp2_with fail
            refine (stGood_any _ B2 _ b (FS.below H2.out bb)).mono ?_
            rintro e x1 ⟨rfl, b1⟩
            replace bb := bel2 bb b1
            rw [G1.out]
            go_wp2_with fail
            refine (mtMove_any x y _).mono ?_
            rintro e w9 ⟨rfl, rfl⟩
            rw [G2.out]
            go_wp2_with fail
            refine (mtFree_any _ B1 _ a x y (FS.below H1.out bb) G0.out G2.out).mono ?_
            rintro e x3 ⟨rfl, b3⟩
            replace bb := bel2 bb b3
            rw [G3.out]
            go_wp2_with fail
            refine (mtFree_any _ B2 _ b x y (FS.below H2.out bb) G1.out G2.out).mono ?_
            rintro e x4 ⟨rfl, b4⟩
            replace bb := bel2 bb b4
            rw [G4.out]
            go_wp2
            go_ret
            exact ⟨ret_bool (asB_yes G0.out G1.out G2.out G3.out G4.out).symm, bb⟩
end Go.Proofs.Ytijmnbgmpakllaa
