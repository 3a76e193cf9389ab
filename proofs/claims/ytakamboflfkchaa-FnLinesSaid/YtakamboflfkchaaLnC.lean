/-
  Lines: centers, lines through points, meeting points, moved lines and lines that are the same: what each call returns.
  Conditions: the arguments are integers of Go's int.
-/
import Derived.Test.YtakamboflfkchaaLnB
namespace Go.Proofs.Ytakamboflfkchaa
set_option linter.unusedSimpArgs false
set_option linter.unusedVariables false
open Go.ChangeShapes Go.WideShapes Go.ChangeAt Go.RowKit
open Go.Sort (grow)

theorem min2 (a b : Int) (w : World) : (Builtin.min_ #[3, 3] 3 #[.int .i64 a, .int .i64 b]).run Try.prog w = .ok (.int .i64 (lessI a b)) w := by
  rw [run_min_int2, min_less]
theorem ceXY_yes {t : Tm} (h : ceB t = true) : ceX t = t.2.2 - t.1 ∧ ceY t = t.2.2 - t.2.1 := ⟨if_pos h, if_pos h⟩
theorem ceXY_no {t : Tm} (h : ceB t = false) : ceX t = 0 ∧ ceY t = 0 := ⟨if_neg (by simp [h]), if_neg (by simp [h])⟩
theorem ce_pt {t : Tm} (h : lnB t = true) : ceX t = ptZ (t.2.2 - t.1) (t.2.2 - t.2.1) (t.2.2 - t.1) ∧ ceY t = ptZ (t.2.2 - t.1) (t.2.2 - t.2.1) (t.2.2 - t.2.1) ∧ ceB t = lnP (t.2.2 - t.1) (t.2.2 - t.2.1) := by
  have e : ceB t = lnP (t.2.2 - t.1) (t.2.2 - t.2.1) := by unfold ceB; rw [h]; rfl
  refine ⟨?_, ?_, e⟩ <;> simp only [ceX, ceY, ptZ, e]
theorem ce_no {t : Tm} (h : lnB t = false) : ceX t = 0 ∧ ceY t = 0 ∧ ceB t = false := by
  have e : ceB t = false := by unfold ceB; rw [h]; rfl
  exact ⟨(ceXY_no e).1, (ceXY_no e).2, e⟩
theorem mp_pt {l m : Tm} (h : lnB l = true) (h' : lnB m = true) : mpXR l m = ptZ (mpX l m) (mpY l m) (mpX l m) ∧ mpYR l m = ptZ (mpX l m) (mpY l m) (mpY l m) ∧ mpB l m = lnP (mpX l m) (mpY l m) := by
  have e : mpB l m = lnP (mpX l m) (mpY l m) := by unfold mpB; rw [h, h']; rfl
  refine ⟨?_, ?_, e⟩ <;> simp only [mpXR, mpYR, ptZ, e]
theorem mp_no1 {l m : Tm} (h : lnB l = false) : mpXR l m = 0 ∧ mpYR l m = 0 ∧ mpB l m = false := by
  have e : mpB l m = false := by unfold mpB; rw [h]; rfl
  exact ⟨if_neg (by simp [e]), if_neg (by simp [e]), e⟩
theorem mp_no2 {l m : Tm} (h : lnB m = false) : mpXR l m = 0 ∧ mpYR l m = 0 ∧ mpB l m = false := by
  have e : mpB l m = false := by unfold mpB; rw [h]; simp
  exact ⟨if_neg (by simp [e]), if_neg (by simp [e]), e⟩
theorem th_yes {x y u v : Int} (h : lnP x y = true) (h' : lnP u v = true) : thR x y u v = lnR (thL x y u v) ∧ thB x y u v = lnB (thL x y u v) := by
  have e : thB x y u v = lnB (thL x y u v) := by unfold thB; rw [h, h']; rfl
  exact ⟨by simp only [thR, lnR, e], e⟩
theorem th_no1 {x y u v : Int} (h : lnP x y = false) : thR x y u v = (0, 0, 0) ∧ thB x y u v = false := by
  have e : thB x y u v = false := by unfold thB; rw [h]; rfl
  exact ⟨if_neg (by simp [e]), e⟩
theorem th_no2 {x y u v : Int} (h : lnP u v = false) : thR x y u v = (0, 0, 0) ∧ thB x y u v = false := by
  have e : thB x y u v = false := by unfold thB; rw [h]; simp
  exact ⟨if_neg (by simp [e]), e⟩
theorem mv_yes {t : Tm} {x y : Int} (h : lnA t x y = true) : mvTR t x y = lnR (mvT t x y) ∧ mvTB t x y = lnB (mvT t x y) := by
  have e : mvTB t x y = lnB (mvT t x y) := by unfold mvTB; rw [h]; rfl
  exact ⟨by simp only [mvTR, lnR, e], e⟩
theorem mv_no {t : Tm} {x y : Int} (h : lnA t x y = false) : mvTR t x y = (0, 0, 0) ∧ mvTB t x y = false := by
  have e : mvTB t x y = false := by unfold mvTB; rw [h]; rfl
  exact ⟨if_neg (by simp [e]), e⟩
theorem sm_no1 {s t : Tm} (h : lnB s = false) : smR s t = false ∧ smO s t = false := by
  have e : smO s t = false := by unfold smO; rw [h]; rfl
  exact ⟨by unfold smR; rw [e]; rfl, e⟩
theorem sm_no2 {s t : Tm} (h : lnB t = false) : smR s t = false ∧ smO s t = false := by
  have e : smO s t = false := by unfold smO; rw [h]; simp
  exact ⟨by unfold smR; rw [e]; rfl, e⟩
theorem sm_yes {s t : Tm} (h : lnB s = true) (h' : lnB t = true) : smR s t = smB s t ∧ smO s t = true := by
  have e : smO s t = true := by unfold smO; rw [h, h']; rfl
  exact ⟨by unfold smR; rw [e]; rfl, e⟩
theorem specCenterOf_any (t : Tm) (w : World) : Calls Try.prog 10 #[tmV t] w fun e w' => e = .returned (.tuple #[.int .i64 (ceX t), .int .i64 (ceY t), .bool (ceB t)]) ∧ Gr w w' := by
  have HI := Lib.hid (fun W => lnGood_any t W)
  have HX := Lib.hid (T3.new w t 24)
  cases hp : lnB t
  · obtain ⟨e1, e2, e3⟩ := ce_no hp
    rw [hp] at HI
    rw [e1, e2, e3]
    obtain ⟨a, b, c⟩ := t
    clear hp e1 e2 e3
    go_enter Try.func10, Try.ntmps10
    go_wp2_with fail
    refine (HI.out _).mono ?_
    rintro e w1 ⟨rfl, g1⟩
    go_wp2
    go_ret3
    exact ⟨rfl, (gr1 _ _).trans g1⟩
  · obtain ⟨e1, e2, e3⟩ := ce_pt hp
    obtain ⟨⟨a1, a2⟩, ⟨b1, b2⟩, z1, z2⟩ := lnB_parts hp
    rw [hp] at HI
    rw [e1, e2, e3]
    obtain ⟨a, b, c⟩ := t
    dsimp only at a1 a2 b1 b2 z1 z2 ⊢
    obtain ⟨x, hx⟩ : ∃ x, x = c - a := ⟨_, rfl⟩
    obtain ⟨y, hy⟩ : ∃ y, y = c - b := ⟨_, rfl⟩
    have q1 : IntKind.i64.wrap (c - a) = x := by rw [hx]; exact IntWalk.i64_in _ (by omega)
    have q2 : IntKind.i64.wrap (c - b) = y := by rw [hy]; exact IntWalk.i64_in _ (by omega)
    have HP := Lib.hid (fun W => lnPoint_any x y W)
    rw [← hx, ← hy]
    clear hp e1 e2 e3 hx hy
    go_enter Try.func10, Try.ntmps10
    go_wp2_with fail
    refine (HI.out _).mono ?_
    rintro e w1 ⟨rfl, g1⟩
    obtain ⟨c0, c1, c2⟩ := HX.out.below g1.below
    have hl := cell_lt c0
    have HG := Lib.hid ((gr1 _ _).trans g1)
    clear g1
    go_wp2_with fail
    refine (HP.out _).mono ?_
    rintro e w' ⟨rfl, rfl⟩
    go_wp2
    go_ret3
    exact ⟨rfl, HG.out⟩
theorem implCenterOf_any (t : Tm) (hw : wfT t) (w : World) : Calls Try.prog 9 #[tmV t] w fun e w' => e = .returned (.tuple #[.int .i64 (ceX t), .int .i64 (ceY t), .bool (ceB t)]) ∧ Gr w w' := by
  have HI := Lib.hid (fun W => implIsLine_any t hw W)
  have HX := Lib.hid (T3.new w t 24)
  cases hp : lnB t
  · obtain ⟨e1, e2, e3⟩ := ce_no hp
    rw [hp] at HI
    rw [e1, e2, e3]
    obtain ⟨a, b, c⟩ := t
    clear hp e1 e2 e3 hw
    go_enter Try.func9, Try.ntmps9
    go_wp2_with fail
    refine (HI.out _).mono ?_
    rintro e w1 ⟨rfl, g1⟩
    go_wp2
    go_ret3
    exact ⟨rfl, (gr1 _ _).trans g1⟩
  · obtain ⟨e1, e2, e3⟩ := ce_pt hp
    obtain ⟨⟨a1, a2⟩, ⟨b1, b2⟩, z1, z2⟩ := lnB_parts hp
    rw [hp] at HI
    rw [e1, e2, e3]
    obtain ⟨a, b, c⟩ := t
    dsimp only at a1 a2 b1 b2 z1 z2 ⊢
    obtain ⟨x, hx⟩ : ∃ x, x = c - a := ⟨_, rfl⟩
    obtain ⟨y, hy⟩ : ∃ y, y = c - b := ⟨_, rfl⟩
    have q1 : IntKind.i64.wrap (c - a) = x := by rw [hx]; exact IntWalk.i64_in _ (by omega)
    have q2 : IntKind.i64.wrap (c - b) = y := by rw [hy]; exact IntWalk.i64_in _ (by omega)
    have HP := Lib.hid (fun W => placeOrNone_any x y W)
    rw [← hx, ← hy]
    clear hp e1 e2 e3 hx hy hw
    go_enter Try.func9, Try.ntmps9
    go_wp2_with fail
    refine (HI.out _).mono ?_
    rintro e w1 ⟨rfl, g1⟩
    obtain ⟨c0, c1, c2⟩ := HX.out.below g1.below
    have hl := cell_lt c0
    have HG := Lib.hid ((gr1 _ _).trans g1)
    clear g1
    go_wp2_with fail
    refine (HP.out _).mono ?_
    rintro e w' ⟨rfl, rfl⟩
    go_wp2
    go_ret3
    exact ⟨rfl, HG.out⟩
theorem specLineThrough_any (x y u v : Int) (w : World) : Calls Try.prog 14 #[.int .i64 x, .int .i64 y, .int .i64 u, .int .i64 v] w fun e w' => GivesL (thR x y u v) (thB x y u v) w e w' := by
  have F0 := Lib.hid (fun W => poFinite_any x W)
  have F1 := Lib.hid (fun W => poFinite_any y W)
  have F2 := Lib.hid (fun W => poFinite_any u W)
  have F3 := Lib.hid (fun W => poFinite_any v W)
  cases h0 : finB x
  · rw [h0] at F0
    obtain ⟨e1, e2⟩ := th_no1 (u := u) (v := v) (show lnP x y = false by unfold lnP; rw [h0]; rfl)
    rw [e1, e2]
    clear e1 e2 h0
    go_enter Try.func14, Try.ntmps14
    go_wp2_with fail
    refine (F0.out _).mono ?_
    rintro e w' ⟨rfl, rfl⟩
    go_wp2
    refine bodyPost_ret (T3.resultsL (t := (0, 0, 0)) (g := w.heap.size) (T3.new w (0, 0, 0) 24) rfl rfl rfl) rfl ⟨rfl, ?_⟩
    exact gr1 _ _
  · rw [h0] at F0
    cases h1 : finB y
    · rw [h1] at F1
      obtain ⟨e1, e2⟩ := th_no1 (u := u) (v := v) (show lnP x y = false by unfold lnP; rw [h1]; simp)
      rw [e1, e2]
      clear e1 e2 h0 h1
      go_enter Try.func14, Try.ntmps14
      go_wp2_with fail
      refine (F0.out _).mono ?_
      rintro e w' ⟨rfl, rfl⟩
      go_wp2_with fail
      refine (F1.out _).mono ?_
      rintro e w' ⟨rfl, rfl⟩
      go_wp2
      refine bodyPost_ret (T3.resultsL (t := (0, 0, 0)) (g := w.heap.size) (T3.new w (0, 0, 0) 24) rfl rfl rfl) rfl ⟨rfl, ?_⟩
      exact gr1 _ _
    · rw [h1] at F1
      cases h2 : finB u
      · rw [h2] at F2
        obtain ⟨e1, e2⟩ := th_no2 (x := x) (y := y) (show lnP u v = false by unfold lnP; rw [h2]; rfl)
        rw [e1, e2]
        clear e1 e2 h0 h1 h2
        go_enter Try.func14, Try.ntmps14
        go_wp2_with fail
        refine (F0.out _).mono ?_
        rintro e w' ⟨rfl, rfl⟩
        go_wp2_with fail
        refine (F1.out _).mono ?_
        rintro e w' ⟨rfl, rfl⟩
        go_wp2_with fail
        refine (F2.out _).mono ?_
        rintro e w' ⟨rfl, rfl⟩
        go_wp2
        refine bodyPost_ret (T3.resultsL (t := (0, 0, 0)) (g := w.heap.size) (T3.new w (0, 0, 0) 24) rfl rfl rfl) rfl ⟨rfl, ?_⟩
        exact gr1 _ _
      · rw [h2] at F2
        cases h3 : finB v
        · rw [h3] at F3
          obtain ⟨e1, e2⟩ := th_no2 (x := x) (y := y) (show lnP u v = false by unfold lnP; rw [h3]; simp)
          rw [e1, e2]
          clear e1 e2 h0 h1 h2 h3
          go_enter Try.func14, Try.ntmps14
          go_wp2_with fail
          refine (F0.out _).mono ?_
          rintro e w' ⟨rfl, rfl⟩
          go_wp2_with fail
          refine (F1.out _).mono ?_
          rintro e w' ⟨rfl, rfl⟩
          go_wp2_with fail
          refine (F2.out _).mono ?_
          rintro e w' ⟨rfl, rfl⟩
          go_wp2_with fail
          refine (F3.out _).mono ?_
          rintro e w' ⟨rfl, rfl⟩
          go_wp2
          refine bodyPost_ret (T3.resultsL (t := (0, 0, 0)) (g := w.heap.size) (T3.new w (0, 0, 0) 24) rfl rfl rfl) rfl ⟨rfl, ?_⟩
          exact gr1 _ _
        · rw [h3] at F3
          have p1 : lnP x y = true := by unfold lnP; rw [h0, h1]; rfl
          have p2 : lnP u v = true := by unfold lnP; rw [h2, h3]; rfl
          obtain ⟨e1, e2⟩ := th_yes p1 p2
          rw [e1, e2]
          obtain ⟨⟨x1, x2⟩, y1, y2⟩ := lnP_parts p1
          obtain ⟨⟨u1, u2⟩, v1, v2⟩ := lnP_parts p2
          obtain ⟨s1, hs1⟩ : ∃ s, s = x + v := ⟨_, rfl⟩
          obtain ⟨s2, hs2⟩ : ∃ s, s = u + y := ⟨_, rfl⟩
          have q1 : IntKind.i64.wrap (x + v) = s1 := by rw [hs1]; exact IntWalk.i64_in _ (by omega)
          have q2 : IntKind.i64.wrap (u + y) = s2 := by rw [hs2]; exact IntWalk.i64_in _ (by omega)
          have hb1 := lessI_bd (m := 3000000) (a := y) (b := v) (by omega) (by omega)
          have hb2 := lessI_bd (m := 3000000) (a := x) (b := u) (by omega) (by omega)
          have hE : thL x y u v = (lessI y v, lessI x u, lessI s1 s2) := by rw [hs1, hs2]; rfl
          rw [hE]
          clear e1 e2 hs1 hs2 hE p1 p2 h0 h1 h2 h3
          have L1 := Lib.hid (fun W => l1Least_any y v W)
          have L2 := Lib.hid (fun W => l1Least_any x u W)
          have L3 := Lib.hid (fun W => l1Least_any s1 s2 W)
          generalize lessI y v = A at hb1 L1 ⊢
          generalize lessI x u = B at hb2 L2 ⊢
          generalize lessI s1 s2 = C at L3 ⊢
          have HI := Lib.hid (fun W => lnIf_any (A, B, C) W)
          generalize lnR (A, B, C) = t at HI ⊢
          generalize lnB (A, B, C) = p at HI ⊢
          have HZ := Lib.hid (B3.new w (0, 0, 0) 24)
          clear hb1 hb2 x1 x2 y1 y2 u1 u2 v1 v2
          go_enter Try.func14, Try.ntmps14
          go_wp2_with fail
          refine (F0.out _).mono ?_
          rintro e w' ⟨rfl, rfl⟩
          go_wp2_with fail
          refine (F1.out _).mono ?_
          rintro e w' ⟨rfl, rfl⟩
          go_wp2_with fail
          refine (F2.out _).mono ?_
          rintro e w' ⟨rfl, rfl⟩
          go_wp2_with fail
          refine (F3.out _).mono ?_
          rintro e w' ⟨rfl, rfl⟩
          go_wp2_with fail
          refine (L1.out _).mono ?_
          rintro e w' ⟨rfl, rfl⟩
          go_wp2_with fail
          refine (L2.out _).mono ?_
          rintro e w' ⟨rfl, rfl⟩
          go_wp2_with fail
          refine (L3.out _).mono ?_
          rintro e w' ⟨rfl, rfl⟩
          go_wp2_with fail
          refine (HI.out _).mono ?_
          rintro e w1 ⟨rfl, g1⟩
          obtain ⟨hc, f0, f1, f2⟩ := HZ.out.below g1.below
          have HK := Lib.hid hc
          obtain ⟨c0, c1, c2⟩ := hc
          have hl := cell_lt c0
          have HG := Lib.hid ((gr1 _ _).trans g1)
          clear g1
          go_wp2
          refine bodyPost_ret (T3.resultsL (t := t) (g := w.heap.size) (T3.stores (s := (0, 0, 0)) HK.out t) rfl rfl rfl) rfl ⟨rfl, ?_⟩
          exact HG.out.set3 (by omega) _ _ _
theorem implLineThrough_any (x y u v : Int) (w : World) : Calls Try.prog 13 #[.int .i64 x, .int .i64 y, .int .i64 u, .int .i64 v] w fun e w' => GivesL (thR x y u v) (thB x y u v) w e w' := by
  have F0 := Lib.hid (fun W => arePlace_any x y W)
  have F1 := Lib.hid (fun W => arePlace_any u v W)
  cases h0 : lnP x y
  · rw [h0] at F0
    obtain ⟨e1, e2⟩ := th_no1 (u := u) (v := v) h0
    rw [e1, e2]
    clear e1 e2 h0
    go_enter Try.func13, Try.ntmps13
    go_wp2_with fail
    refine (F0.out _).mono ?_
    rintro e w' ⟨rfl, rfl⟩
    go_wp2
    refine bodyPost_ret (T3.resultsL (t := (0, 0, 0)) (g := w.heap.size) (T3.new w (0, 0, 0) 24) rfl rfl rfl) rfl ⟨rfl, ?_⟩
    exact gr1 _ _
  · rw [h0] at F0
    cases h1 : lnP u v
    · rw [h1] at F1
      obtain ⟨e1, e2⟩ := th_no2 (x := x) (y := y) h1
      rw [e1, e2]
      clear e1 e2 h0 h1
      go_enter Try.func13, Try.ntmps13
      go_wp2_with fail
      refine (F0.out _).mono ?_
      rintro e w' ⟨rfl, rfl⟩
      go_wp2_with fail
      refine (F1.out _).mono ?_
      rintro e w' ⟨rfl, rfl⟩
      go_wp2
      refine bodyPost_ret (T3.resultsL (t := (0, 0, 0)) (g := w.heap.size) (T3.new w (0, 0, 0) 24) rfl rfl rfl) rfl ⟨rfl, ?_⟩
      exact gr1 _ _
    · rw [h1] at F1
      have p1 := h0
      have p2 := h1
      obtain ⟨e1, e2⟩ := th_yes p1 p2
      rw [e1, e2]
      obtain ⟨⟨x1, x2⟩, y1, y2⟩ := lnP_parts p1
      obtain ⟨⟨u1, u2⟩, v1, v2⟩ := lnP_parts p2
      obtain ⟨s1, hs1⟩ : ∃ s, s = x + v := ⟨_, rfl⟩
      obtain ⟨s2, hs2⟩ : ∃ s, s = u + y := ⟨_, rfl⟩
      have q1 : IntKind.i64.wrap (x + v) = s1 := by rw [hs1]; exact IntWalk.i64_in _ (by omega)
      have q2 : IntKind.i64.wrap (u + y) = s2 := by rw [hs2]; exact IntWalk.i64_in _ (by omega)
      have hb1 := lessI_bd (m := 3000000) (a := y) (b := v) (by omega) (by omega)
      have hb2 := lessI_bd (m := 3000000) (a := x) (b := u) (by omega) (by omega)
      have hE : thL x y u v = (lessI y v, lessI x u, lessI s1 s2) := by rw [hs1, hs2]; rfl
      rw [hE]
      clear e1 e2 hs1 hs2 hE p1 p2 h0 h1
      have m1 := min2 y v
      have m2 := min2 x u
      have m3 := min2 s1 s2
      generalize lessI y v = A at hb1 m1 ⊢
      generalize lessI x u = B at hb2 m2 ⊢
      generalize lessI s1 s2 = C at m3 ⊢
      have HI := Lib.hid (fun W => lineOrNone_any (A, B, C) ⟨IntWalk.i64_in _ (by dsimp only; omega), IntWalk.i64_in _ (by dsimp only; omega)⟩ W)
      generalize lnR (A, B, C) = t at HI ⊢
      generalize lnB (A, B, C) = p at HI ⊢
      have HZ := Lib.hid (B3.new w (0, 0, 0) 24)
      clear hb1 hb2 x1 x2 y1 y2 u1 u2 v1 v2
      go_enter Try.func13, Try.ntmps13
      go_wp2_with fail
      refine (F0.out _).mono ?_
      rintro e w' ⟨rfl, rfl⟩
      go_wp2_with fail
      refine (F1.out _).mono ?_
      rintro e w' ⟨rfl, rfl⟩
      go_wp2_with fail
      refine (HI.out _).mono ?_
      rintro e w1 ⟨rfl, g1⟩
      obtain ⟨hc, f0, f1, f2⟩ := HZ.out.below g1.below
      have HK := Lib.hid hc
      obtain ⟨c0, c1, c2⟩ := hc
      have hl := cell_lt c0
      have HG := Lib.hid ((gr1 _ _).trans g1)
      clear g1
      go_wp2
      refine bodyPost_ret (T3.resultsL (t := t) (g := w.heap.size) (T3.stores (s := (0, 0, 0)) HK.out t) rfl rfl rfl) rfl ⟨rfl, ?_⟩
      exact HG.out.set3 (by omega) _ _ _
end Go.Proofs.Ytakamboflfkchaa
