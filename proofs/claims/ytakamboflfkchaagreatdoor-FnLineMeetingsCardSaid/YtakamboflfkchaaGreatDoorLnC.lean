/-
  Lines: centers, lines through points, meeting points, moved lines and lines that are the same: what each call returns.
  Conditions: the arguments are integers of Go's int.
-/
import Derived.Test.YtakamboflfkchaaGreatDoorLnB
namespace Go.Proofs.YtakamboflfkchaaGreatDoor
set_option linter.unusedSimpArgs false
set_option linter.unusedVariables false
open Go.ChangeShapes Go.WideShapes Go.ChangeAt Go.RowKit
open Go.Sort (grow)

theorem min2 (a b : Int) (w : World) : (Builtin.min_ #[3, 3] 3 #[.int .i64 a, .int .i64 b]).run Tryz.prog w = .ok (.int .i64 (lessI a b)) w := by
  rw [run_min_int2, min_less]
theorem ceXY_yes {t : Tm} (h : ceB t = true) : ceX t = t.2.2 - t.1 ∧ ceY t = t.2.2 - t.2.1 := ⟨if_pos h, if_pos h⟩
theorem ceXY_no {t : Tm} (h : ceB t = false) : ceX t = 0 ∧ ceY t = 0 := ⟨if_neg (by simp [h]), if_neg (by simp [h])⟩
theorem ce_pt {t : Tm} (h : lnB t = true) : ceX t = ptZ (t.2.2 - t.1) (t.2.2 - t.2.1) (t.2.2 - t.1) ∧ ceY t = ptZ (t.2.2 - t.1) (t.2.2 - t.2.1) (t.2.2 - t.2.1) ∧ ceB t = lnP (t.2.2 - t.1) (t.2.2 - t.2.1) := by
  have e : ceB t = lnP (t.2.2 - t.1) (t.2.2 - t.2.1) := by unfold ceB; rw [h]; rfl
  refine ⟨?_, ?_, e⟩ <;> simp only [ceX, ceY, ptZ, e]
theorem ce_no {t : Tm} (h : lnB t = false) : ceX t = 0 ∧ ceY t = 0 ∧ ceB t = false := by
  have e : ceB t = false := by unfold ceB; rw [h]; rfl
  exact ⟨(ceXY_no e).1, (ceXY_no e).2, e⟩
theorem mp_pt {l m : Tm} (h : lnB l = true) (h' : lnB m = true) : mpXR l m = ptZ (mpX l m) (mpY l m) (mpX l m) ∧ mpYR l m = ptZ (mpX l m) (mpY l m) (mpY l m) ∧ mpB l m = lnP (mpX l m) (mpY l m) := by
  have e : mpB l m = lnP (mpX l m) (mpY l m) := by unfold mpB; rw [h, h']; rfl
  refine ⟨?_, ?_, e⟩ <;> simp only [mpXR, mpYR, ptZ, e]
theorem mp_no1 {l m : Tm} (h : lnB l = false) : mpXR l m = 0 ∧ mpYR l m = 0 ∧ mpB l m = false := by
  have e : mpB l m = false := by unfold mpB; rw [h]; rfl
  exact ⟨if_neg (by simp [e]), if_neg (by simp [e]), e⟩
theorem mp_no2 {l m : Tm} (h : lnB m = false) : mpXR l m = 0 ∧ mpYR l m = 0 ∧ mpB l m = false := by
  have e : mpB l m = false := by unfold mpB; rw [h]; simp
  exact ⟨if_neg (by simp [e]), if_neg (by simp [e]), e⟩
theorem th_yes {x y u v : Int} (h : lnP x y = true) (h' : lnP u v = true) : thR x y u v = lnR (thL x y u v) ∧ thB x y u v = lnB (thL x y u v) := by
  have e : thB x y u v = lnB (thL x y u v) := by unfold thB; rw [h, h']; rfl
  exact ⟨by simp only [thR, lnR, e], e⟩
theorem th_no1 {x y u v : Int} (h : lnP x y = false) : thR x y u v = (0, 0, 0) ∧ thB x y u v = false := by
  have e : thB x y u v = false := by unfold thB; rw [h]; rfl
  exact ⟨if_neg (by simp [e]), e⟩
theorem th_no2 {x y u v : Int} (h : lnP u v = false) : thR x y u v = (0, 0, 0) ∧ thB x y u v = false := by
  have e : thB x y u v = false := by unfold thB; rw [h]; simp
  exact ⟨if_neg (by simp [e]), e⟩
theorem mv_yes {t : Tm} {x y : Int} (h : lnA t x y = true) : mvTR t x y = lnR (mvT t x y) ∧ mvTB t x y = lnB (mvT t x y) := by
  have e : mvTB t x y = lnB (mvT t x y) := by unfold mvTB; rw [h]; rfl
  exact ⟨by simp only [mvTR, lnR, e], e⟩
theorem mv_no {t : Tm} {x y : Int} (h : lnA t x y = false) : mvTR t x y = (0, 0, 0) ∧ mvTB t x y = false := by
  have e : mvTB t x y = false := by unfold mvTB; rw [h]; rfl
  exact ⟨if_neg (by simp [e]), e⟩
theorem sm_no1 {s t : Tm} (h : lnB s = false) : smR s t = false ∧ smO s t = false := by
  have e : smO s t = false := by unfold smO; rw [h]; rfl
  exact ⟨by unfold smR; rw [e]; rfl, e⟩
theorem sm_no2 {s t : Tm} (h : lnB t = false) : smR s t = false ∧ smO s t = false := by
  have e : smO s t = false := by unfold smO; rw [h]; simp
  exact ⟨by unfold smR; rw [e]; rfl, e⟩
theorem sm_yes {s t : Tm} (h : lnB s = true) (h' : lnB t = true) : smR s t = smB s t ∧ smO s t = true := by
  have e : smO s t = true := by unfold smO; rw [h, h']; rfl
  exact ⟨by unfold smR; rw [e]; rfl, e⟩
theorem implCenterOf_any (t : Tm) (hw : wfT t) (w : World) : Calls Tryz.prog 19 #[tmV t] w fun e w' => e = .returned (.tuple #[.int .i64 (ceX t), .int .i64 (ceY t), .bool (ceB t)]) ∧ Gr w w' := by
  have HI := Lib.hid (fun W => implIsLine_any t hw W)
  have HX := Lib.hid (T3.new w t 24)
  cases hp : lnB t
  · obtain ⟨e1, e2, e3⟩ := ce_no hp
    rw [hp] at HI
    rw [e1, e2, e3]
    obtain ⟨a, b, c⟩ := t
    clear hp e1 e2 e3 hw
    go_enter Tryz.func19, Tryz.ntmps19
    go_wp2_with fail
    refine (HI.out _).mono ?_
    rintro e w1 ⟨rfl, g1⟩
    go_wp2
    go_ret3
    exact ⟨rfl, (gr1 _ _).trans g1⟩
  · obtain ⟨e1, e2, e3⟩ := ce_pt hp
    obtain ⟨⟨a1, a2⟩, ⟨b1, b2⟩, z1, z2⟩ := lnB_parts hp
    rw [hp] at HI
    rw [e1, e2, e3]
    obtain ⟨a, b, c⟩ := t
    dsimp only at a1 a2 b1 b2 z1 z2 ⊢
    obtain ⟨x, hx⟩ : ∃ x, x = c - a := ⟨_, rfl⟩
    obtain ⟨y, hy⟩ : ∃ y, y = c - b := ⟨_, rfl⟩
    have q1 : IntKind.i64.wrap (c - a) = x := by rw [hx]; exact IntWalk.i64_in _ (by omega)
    have q2 : IntKind.i64.wrap (c - b) = y := by rw [hy]; exact IntWalk.i64_in _ (by omega)
    have HP := Lib.hid (fun W => placeOrNone_any x y W)
    rw [← hx, ← hy]
    clear hp e1 e2 e3 hx hy hw
    go_enter Tryz.func19, Tryz.ntmps19
    go_wp2_with fail
    refine (HI.out _).mono ?_
    rintro e w1 ⟨rfl, g1⟩
    obtain ⟨c0, c1, c2⟩ := HX.out.below g1.below
    have hl := cell_lt c0
    have HG := Lib.hid ((gr1 _ _).trans g1)
    clear g1
    go_wp2_with fail
    refine (HP.out _).mono ?_
    rintro e w' ⟨rfl, rfl⟩
    go_wp2
    go_ret3
    exact ⟨rfl, HG.out⟩
set_option maxRecDepth 100000 in
theorem specMoveLine_any (t : Tm) (x y : Int) (w : World) : Calls Tryz.prog 16 #[tmV t, .int .i64 x, .int .i64 y] w fun e w' => GivesL (mvTR t x y) (mvTB t x y) w e w' := by
  have HS := Lib.hid (S6.new w t (0, 0, 0) 24 24)
  have HZ := Lib.hid (B3.new (w.alloc (.cells #[.int .i64 t.1, .int .i64 t.2.1, .int .i64 t.2.2] 24)) (0, 0, 0) 24)
  have HB := Lib.hid (gr_box2 w t (0, 0, 0) 24 24)
  have HQ := Lib.hid (fun W => lnAsked_any t x y W)
  cases hA : lnA t x y
  · rw [hA] at HQ
    obtain ⟨e1, e2⟩ := mv_no hA
    rw [e1, e2]
    obtain ⟨a, b, c⟩ := t
    clear e1 e2 hA
    go_enter Tryz.func16, Tryz.ntmps16
    go_wp2_with fail
    refine (HQ.out _).mono ?_
    rintro e w1 ⟨rfl, g1⟩
    obtain ⟨hc, f0, f1, f2⟩ := HZ.out.below g1.below
    rw [World.size_alloc] at hc f0 f1 f2
    have HK := Lib.hid hc
    obtain ⟨c0, c1, c2⟩ := hc
    have hl := cell_lt c0
    have HG := Lib.hid (HB.out.trans g1)
    clear g1
    go_wp2
    refine bodyPost_ret (T3.resultsL (t := (0, 0, 0)) (g := w.heap.size + 1) (T3.stores (s := (0, 0, 0)) HK.out (0, 0, 0)) rfl rfl rfl) rfl ⟨rfl, ?_⟩
    exact HG.out.set3 (by omega) _ _ _
  · rw [hA] at HQ
    obtain ⟨e1, e2⟩ := mv_yes hA
    rw [e1, e2]
    obtain ⟨⟨a1, a2⟩, ⟨b1, b2⟩, z1, z2⟩ := lnB_parts (lnA_parts hA).1
    obtain ⟨⟨x1, x2⟩, y1, y2⟩ := lnP_parts (lnA_parts hA).2
    obtain ⟨a, b, c⟩ := t
    dsimp only at a1 a2 b1 b2 z1 z2
    obtain ⟨A, hA1⟩ : ∃ s, s = a - x := ⟨_, rfl⟩
    obtain ⟨B, hB1⟩ : ∃ s, s = b - y := ⟨_, rfl⟩
    have q1 : IntKind.i64.wrap (a - x) = A := by rw [hA1]; exact IntWalk.i64_in _ (by omega)
    have q2 : IntKind.i64.wrap (b - y) = B := by rw [hB1]; exact IntWalk.i64_in _ (by omega)
    have hE : mvT (a, b, c) x y = (A, B, c) := by rw [hA1, hB1]; rfl
    rw [hE]
    have HI := Lib.hid (fun W => lnIf_any (A, B, c) W)
    generalize lnR (A, B, c) = t at HI ⊢
    generalize lnB (A, B, c) = p at HI ⊢
    clear e1 e2 hE hA1 hB1 a1 a2 b1 b2 z1 z2 x1 x2 y1 y2 hA
    go_enter Tryz.func16, Tryz.ntmps16
    go_wp2_with fail
    refine (HQ.out _).mono ?_
    rintro e w1 ⟨rfl, g1⟩
    obtain ⟨d0, d1, d2, -, -, -⟩ := HS.out.below g1.below
    have hl' := cell_lt d0
    have B1 := HB.out.trans g1
    have k1 := HZ.out.below g1.below
    clear g1
    go_wp2_with fail
    refine (HI.out _).mono ?_
    rintro e w2 ⟨rfl, g2⟩
    obtain ⟨hc, f0, f1, f2⟩ := k1.below g2.below
    rw [World.size_alloc] at hc f0 f1 f2
    have HK := Lib.hid hc
    obtain ⟨c0, c1, c2⟩ := hc
    have hl := cell_lt c0
    have HG := Lib.hid (B1.trans g2)
    clear g2 B1 k1 d0 d1 d2 hl'
    go_wp2
    refine bodyPost_ret (T3.resultsL (t := t) (g := w.heap.size + 1) (T3.stores (s := (0, 0, 0)) HK.out t) rfl rfl rfl) rfl ⟨rfl, ?_⟩
    exact HG.out.set3 (by omega) _ _ _
set_option maxRecDepth 100000 in
theorem implMoveLine_any (t : Tm) (x y : Int) (hw : wfT t) (w : World) : Calls Tryz.prog 15 #[tmV t, .int .i64 x, .int .i64 y] w fun e w' => GivesL (mvTR t x y) (mvTB t x y) w e w' := by
  have HS := Lib.hid (S6.new w t (0, 0, 0) 24 24)
  have HZ := Lib.hid (B3.new (w.alloc (.cells #[.int .i64 t.1, .int .i64 t.2.1, .int .i64 t.2.2] 24)) (0, 0, 0) 24)
  have HB := Lib.hid (gr_box2 w t (0, 0, 0) 24 24)
  have HQ := Lib.hid (fun W => implIsLine_any t hw W)
  have FX := Lib.hid (fun W => isFin_any x W)
  have FY := Lib.hid (fun W => isFin_any y W)
  cases h1 : lnB t
  · rw [h1] at HQ
    obtain ⟨e1, e2⟩ := mv_no (lnA_no1 (x := x) (y := y) h1)
    rw [e1, e2]
    obtain ⟨a, b, c⟩ := t
    clear e1 e2 h1 hw
    go_enter Tryz.func15, Tryz.ntmps15
    go_wp2_with fail
    refine (HQ.out _).mono ?_
    rintro e w1 ⟨rfl, g1⟩
    obtain ⟨hc, f0, f1, f2⟩ := HZ.out.below g1.below
    rw [World.size_alloc] at hc f0 f1 f2
    have HK := Lib.hid hc
    obtain ⟨c0, c1, c2⟩ := hc
    have hl := cell_lt c0
    have HG := Lib.hid (HB.out.trans g1)
    clear g1
    go_wp2
    refine bodyPost_ret (T3.resultsL (t := (0, 0, 0)) (g := w.heap.size + 1) (T3.stores (s := (0, 0, 0)) HK.out (0, 0, 0)) rfl rfl rfl) rfl ⟨rfl, ?_⟩
    exact HG.out.set3 (by omega) _ _ _
  · rw [h1] at HQ
    cases h2 : finB x
    · rw [h2] at FX
      obtain ⟨e1, e2⟩ := mv_no (lnA_no2 (t := t) (show lnP x y = false by unfold lnP; rw [h2]; rfl))
      rw [e1, e2]
      obtain ⟨a, b, c⟩ := t
      clear e1 e2 h1 h2 hw
      go_enter Tryz.func15, Tryz.ntmps15
      go_wp2_with fail
      refine (HQ.out _).mono ?_
      rintro e w1 ⟨rfl, g1⟩
      obtain ⟨hc, f0, f1, f2⟩ := HZ.out.below g1.below
      rw [World.size_alloc] at hc f0 f1 f2
      have HK := Lib.hid hc
      obtain ⟨c0, c1, c2⟩ := hc
      have hl := cell_lt c0
      have HG := Lib.hid (HB.out.trans g1)
      clear g1
      go_wp2_with fail
      refine (FX.out _).mono ?_
      rintro e w' ⟨rfl, rfl⟩
      go_wp2
      refine bodyPost_ret (T3.resultsL (t := (0, 0, 0)) (g := w.heap.size + 1) (T3.stores (s := (0, 0, 0)) HK.out (0, 0, 0)) rfl rfl rfl) rfl ⟨rfl, ?_⟩
      exact HG.out.set3 (by omega) _ _ _
    · rw [h2] at FX
      cases h3 : finB y
      · rw [h3] at FY
        obtain ⟨e1, e2⟩ := mv_no (lnA_no2 (t := t) (show lnP x y = false by unfold lnP; rw [h3]; simp))
        rw [e1, e2]
        obtain ⟨a, b, c⟩ := t
        clear e1 e2 h1 h2 h3 hw
        go_enter Tryz.func15, Tryz.ntmps15
        go_wp2_with fail
        refine (HQ.out _).mono ?_
        rintro e w1 ⟨rfl, g1⟩
        obtain ⟨hc, f0, f1, f2⟩ := HZ.out.below g1.below
        rw [World.size_alloc] at hc f0 f1 f2
        have HK := Lib.hid hc
        obtain ⟨c0, c1, c2⟩ := hc
        have hl := cell_lt c0
        have HG := Lib.hid (HB.out.trans g1)
        clear g1
        go_wp2_with fail
        refine (FX.out _).mono ?_
        rintro e w' ⟨rfl, rfl⟩
        go_wp2_with fail
        refine (FY.out _).mono ?_
        rintro e w' ⟨rfl, rfl⟩
        go_wp2
        refine bodyPost_ret (T3.resultsL (t := (0, 0, 0)) (g := w.heap.size + 1) (T3.stores (s := (0, 0, 0)) HK.out (0, 0, 0)) rfl rfl rfl) rfl ⟨rfl, ?_⟩
        exact HG.out.set3 (by omega) _ _ _
      · rw [h3] at FY
        have hA : lnA t x y = true := lnA_yes h1 (by unfold lnP; rw [h2, h3]; rfl)
        obtain ⟨e1, e2⟩ := mv_yes hA
        rw [e1, e2]
        obtain ⟨⟨a1, a2⟩, ⟨b1, b2⟩, z1, z2⟩ := lnB_parts (lnA_parts hA).1
        obtain ⟨⟨x1, x2⟩, y1, y2⟩ := lnP_parts (lnA_parts hA).2
        obtain ⟨a, b, c⟩ := t
        dsimp only at a1 a2 b1 b2 z1 z2
        obtain ⟨A, hA1⟩ : ∃ s, s = a - x := ⟨_, rfl⟩
        obtain ⟨B, hB1⟩ : ∃ s, s = b - y := ⟨_, rfl⟩
        have q1 : IntKind.i64.wrap (a - x) = A := by rw [hA1]; exact IntWalk.i64_in _ (by omega)
        have q2 : IntKind.i64.wrap (b - y) = B := by rw [hB1]; exact IntWalk.i64_in _ (by omega)
        have hE : mvT (a, b, c) x y = (A, B, c) := by rw [hA1, hB1]; rfl
        rw [hE]
        have HI := Lib.hid (fun W => lineOrNone_any (A, B, c) ⟨IntWalk.i64_in _ (by dsimp only; omega), IntWalk.i64_in _ (by dsimp only; omega)⟩ W)
        generalize lnR (A, B, c) = t at HI ⊢
        generalize lnB (A, B, c) = p at HI ⊢
        clear e1 e2 hE hA1 hB1 a1 a2 b1 b2 z1 z2 x1 x2 y1 y2 hA hw h1 h2 h3
        go_enter Tryz.func15, Tryz.ntmps15
        go_wp2_with fail
        refine (HQ.out _).mono ?_
        rintro e w1 ⟨rfl, g1⟩
        obtain ⟨d0, d1, d2, -, -, -⟩ := HS.out.below g1.below
        have hl' := cell_lt d0
        have B1 := HB.out.trans g1
        have k1 := HZ.out.below g1.below
        clear g1
        go_wp2_with fail
        refine (FX.out _).mono ?_
        rintro e w' ⟨rfl, rfl⟩
        go_wp2_with fail
        refine (FY.out _).mono ?_
        rintro e w' ⟨rfl, rfl⟩
        go_wp2_with fail
        refine (HI.out _).mono ?_
        rintro e w2 ⟨rfl, g2⟩
        obtain ⟨hc, f0, f1, f2⟩ := k1.below g2.below
        rw [World.size_alloc] at hc f0 f1 f2
        have HK := Lib.hid hc
        obtain ⟨c0, c1, c2⟩ := hc
        have hl := cell_lt c0
        have HG := Lib.hid (B1.trans g2)
        clear g2 B1 k1 d0 d1 d2 hl'
        go_wp2
        refine bodyPost_ret (T3.resultsL (t := t) (g := w.heap.size + 1) (T3.stores (s := (0, 0, 0)) HK.out t) rfl rfl rfl) rfl ⟨rfl, ?_⟩
        exact HG.out.set3 (by omega) _ _ _
set_option maxHeartbeats 1000000 in
set_option maxRecDepth 100000 in
theorem specMeetingPoint_any (s t : Tm) (w : World) : Calls Tryz.prog 6 #[tmV s, tmV t] w fun e w' => e = .returned (.tuple #[.int .i64 (mpXR s t), .int .i64 (mpYR s t), .bool (mpB s t)]) ∧ Gr w w' := by
  have HS := Lib.hid (S6.new w s t 24 24)
  have HB := Lib.hid (gr_box2 w s t 24 24)
  have I1 := Lib.hid (fun W => lnGood_any s W)
  have I2 := Lib.hid (fun W => lnGood_any t W)
  cases h1 : lnB s
  · rw [h1] at I1
    obtain ⟨e1, e2, e3⟩ := mp_no1 (m := t) h1
    rw [e1, e2, e3]
    obtain ⟨a, b, c⟩ := s
    obtain ⟨a', b', c'⟩ := t
    clear h1 e1 e2 e3
    go_enter Tryz.func6, Tryz.ntmps6
    go_wp2_with fail
    refine (I1.out _).mono ?_
    rintro e w1 ⟨rfl, g1⟩
    go_wp2
    go_ret3
    exact ⟨rfl, HB.out.trans g1⟩
  · rw [h1] at I1
    cases h2 : lnB t
    · rw [h2] at I2
      obtain ⟨e1, e2, e3⟩ := mp_no2 (l := s) h2
      rw [e1, e2, e3]
      obtain ⟨a, b, c⟩ := s
      obtain ⟨a', b', c'⟩ := t
      clear h1 h2 e1 e2 e3
      go_enter Tryz.func6, Tryz.ntmps6
      go_wp2_with fail
      refine (I1.out _).mono ?_
      rintro e w1 ⟨rfl, g1⟩
      have s1 := HS.out.below g1.below
      obtain ⟨-, -, -, d0, d1, d2⟩ := s1
      have hl1 := cell_lt d0
      go_wp2_with fail
      refine (I2.out _).mono ?_
      rintro e w2 ⟨rfl, g2⟩
      have B2 := HB.out.trans (g1.trans g2)
      have s2 := HS.out.below (g1.trans g2).below
      clear d0 d1 d2 hl1 g1 g2
      clear s2
      go_wp2
      go_ret3
      exact ⟨rfl, B2⟩
    · rw [h2] at I2
      obtain ⟨e1, e2, e3⟩ := mp_pt h1 h2
      rw [e1, e2, e3]
      obtain ⟨⟨a1, a2⟩, ⟨b1, b2⟩, z1, z2⟩ := lnB_parts h1
      obtain ⟨⟨a3, a4⟩, ⟨b3, b4⟩, z3, z4⟩ := lnB_parts h2
      obtain ⟨a, b, c⟩ := s
      obtain ⟨a', b', c'⟩ := t
      dsimp only at a1 a2 b1 b2 z1 z2 a3 a4 b3 b4 z3 z4
      obtain ⟨n1, hn1⟩ : ∃ n, n = b + c' := ⟨_, rfl⟩
      obtain ⟨n2, hn2⟩ : ∃ n, n = b' + c := ⟨_, rfl⟩
      obtain ⟨n3, hn3⟩ : ∃ n, n = a + c' := ⟨_, rfl⟩
      obtain ⟨n4, hn4⟩ : ∃ n, n = a' + c := ⟨_, rfl⟩
      obtain ⟨n5, hn5⟩ : ∃ n, n = a + b' := ⟨_, rfl⟩
      obtain ⟨n6, hn6⟩ : ∃ n, n = a' + b := ⟨_, rfl⟩
      have hX : mpX (a, b, c) (a', b', c') = lessI n1 n2 - lessI n5 n6 := by rw [hn1, hn2, hn5, hn6]; rfl
      have hY : mpY (a, b, c) (a', b', c') = lessI n3 n4 - lessI n5 n6 := by rw [hn3, hn4, hn5, hn6]; rfl
      rw [hX, hY]
      have q1 : IntKind.i64.wrap (b + c') = n1 := by rw [hn1]; exact IntWalk.i64_in _ (by omega)
      have q2 : IntKind.i64.wrap (b' + c) = n2 := by rw [hn2]; exact IntWalk.i64_in _ (by omega)
      have q3 : IntKind.i64.wrap (a + c') = n3 := by rw [hn3]; exact IntWalk.i64_in _ (by omega)
      have q4 : IntKind.i64.wrap (a' + c) = n4 := by rw [hn4]; exact IntWalk.i64_in _ (by omega)
      have q5 : IntKind.i64.wrap (a + b') = n5 := by rw [hn5]; exact IntWalk.i64_in _ (by omega)
      have q6 : IntKind.i64.wrap (a' + b) = n6 := by rw [hn6]; exact IntWalk.i64_in _ (by omega)
      have v1 := lessI_bd (m := 3000000) (a := n1) (b := n2) (by omega) (by omega)
      have v2 := lessI_bd (m := 3000000) (a := n3) (b := n4) (by omega) (by omega)
      have v3 := lessI_bd (m := 3000000) (a := n5) (b := n6) (by omega) (by omega)
      have L1 := Lib.hid (fun W => l1Least_any n1 n2 W)
      have L2 := Lib.hid (fun W => l1Least_any n3 n4 W)
      have L3 := Lib.hid (fun W => l1Least_any n5 n6 W)
      generalize lessI n1 n2 = P at v1 L1 ⊢
      generalize lessI n3 n4 = Q at v2 L2 ⊢
      generalize lessI n5 n6 = R at v3 L3 ⊢
      obtain ⟨X, hX'⟩ : ∃ X, X = P - R := ⟨_, rfl⟩
      obtain ⟨Y, hY'⟩ : ∃ X, X = Q - R := ⟨_, rfl⟩
      have q7 : IntKind.i64.wrap (P - R) = X := by rw [hX']; exact IntWalk.i64_in _ (by omega)
      have q8 : IntKind.i64.wrap (Q - R) = Y := by rw [hY']; exact IntWalk.i64_in _ (by omega)
      rw [← hX', ← hY']
      have HP := Lib.hid (fun W => lnPoint_any X Y W)
      clear hX' hY' hX hY hn1 hn2 hn3 hn4 hn5 hn6 v1 v2 v3 a1 a2 b1 b2 z1 z2 a3 a4 b3 b4 z3 z4 e1 e2 e3 h1 h2
      go_enter Tryz.func6, Tryz.ntmps6
      go_wp2_with fail
      refine (I1.out _).mono ?_
      rintro e w1 ⟨rfl, g1⟩
      have s1 := HS.out.below g1.below
      obtain ⟨-, -, -, d0, d1, d2⟩ := s1
      have hl1 := cell_lt d0
      go_wp2_with fail
      refine (I2.out _).mono ?_
      rintro e w2 ⟨rfl, g2⟩
      have B2 := HB.out.trans (g1.trans g2)
      have s2 := HS.out.below (g1.trans g2).below
      clear d0 d1 d2 hl1 g1 g2
      obtain ⟨c0, c1, c2, d0, d1, d2⟩ := s2
      have l0 := cell_lt c0
      have l1 := cell_lt d0
      go_wp2_with fail
      refine (L3.out _).mono ?_
      rintro e w' ⟨rfl, rfl⟩
      have HL := Lib.hid (fun k' => show Calls Tryz.prog 25 #[.int .i64 n1, .int .i64 n2] (w2.drewN k') fun e w' => e = .returned (.int .i64 P) ∧ w' = w2.drewN k' from (L1.out (w2.drewN k')).mono fun e w' h => ⟨h.1, h.2.symm⟩)
      have HM := Lib.hid (fun k' => show Calls Tryz.prog 25 #[.int .i64 n3, .int .i64 n4] (w2.drewN k') fun e w' => e = .returned (.int .i64 Q) ∧ w' = w2.drewN k' from (L2.out (w2.drewN k')).mono fun e w' h => ⟨h.1, h.2.symm⟩)
      have HR := Lib.hid (fun k' => show Calls Tryz.prog 26 #[.int .i64 X, .int .i64 Y] (w2.drewN k') fun e w' => e = .returned (.tuple #[.int .i64 (ptZ X Y X), .int .i64 (ptZ X Y Y), .bool (lnP X Y)]) ∧ w' = w2.drewN k' from (HP.out (w2.drewN k')).mono fun e w' h => ⟨h.1, h.2.symm⟩)
      go_wp2
      go_quiet (first | (with_reducible exact Calls.quiet_of_same (HL.out _)) | (with_reducible exact Calls.quiet_of_same (HM.out _)) | (with_reducible exact Calls.quiet_of_same (HR.out _)))
      go_wp2
      go_ret3
      exact ⟨rfl, B2.drewN _⟩
set_option maxHeartbeats 1000000 in
set_option maxRecDepth 100000 in
theorem implMeetingPoint_any (s t : Tm) (hs : wfT s) (ht : wfT t) (w : World) : Calls Tryz.prog 5 #[tmV s, tmV t] w fun e w' => e = .returned (.tuple #[.int .i64 (mpXR s t), .int .i64 (mpYR s t), .bool (mpB s t)]) ∧ Gr w w' := by
  have HS := Lib.hid (S6.new w s t 24 24)
  have HB := Lib.hid (gr_box2 w s t 24 24)
  have I1 := Lib.hid (fun W => implIsLine_any s hs W)
  have I2 := Lib.hid (fun W => implIsLine_any t ht W)
  cases h1 : lnB s
  · rw [h1] at I1
    obtain ⟨e1, e2, e3⟩ := mp_no1 (m := t) h1
    rw [e1, e2, e3]
    obtain ⟨a, b, c⟩ := s
    obtain ⟨a', b', c'⟩ := t
    clear h1 e1 e2 e3 hs ht
    go_enter Tryz.func5, Tryz.ntmps5
    go_wp2_with fail
    refine (I1.out _).mono ?_
    rintro e w1 ⟨rfl, g1⟩
    go_wp2
    go_ret3
    exact ⟨rfl, HB.out.trans g1⟩
  · rw [h1] at I1
    cases h2 : lnB t
    · rw [h2] at I2
      obtain ⟨e1, e2, e3⟩ := mp_no2 (l := s) h2
      rw [e1, e2, e3]
      obtain ⟨a, b, c⟩ := s
      obtain ⟨a', b', c'⟩ := t
      clear h1 h2 e1 e2 e3 hs ht
      go_enter Tryz.func5, Tryz.ntmps5
      go_wp2_with fail
      refine (I1.out _).mono ?_
      rintro e w1 ⟨rfl, g1⟩
      have s1 := HS.out.below g1.below
      obtain ⟨-, -, -, d0, d1, d2⟩ := s1
      have hl1 := cell_lt d0
      go_wp2_with fail
      refine (I2.out _).mono ?_
      rintro e w2 ⟨rfl, g2⟩
      have B2 := HB.out.trans (g1.trans g2)
      have s2 := HS.out.below (g1.trans g2).below
      clear d0 d1 d2 hl1 g1 g2
      clear s2
      go_wp2
      go_ret3
      exact ⟨rfl, B2⟩
    · rw [h2] at I2
      obtain ⟨e1, e2, e3⟩ := mp_pt h1 h2
      rw [e1, e2, e3]
      obtain ⟨⟨a1, a2⟩, ⟨b1, b2⟩, z1, z2⟩ := lnB_parts h1
      obtain ⟨⟨a3, a4⟩, ⟨b3, b4⟩, z3, z4⟩ := lnB_parts h2
      obtain ⟨a, b, c⟩ := s
      obtain ⟨a', b', c'⟩ := t
      dsimp only at a1 a2 b1 b2 z1 z2 a3 a4 b3 b4 z3 z4
      obtain ⟨n1, hn1⟩ : ∃ n, n = b + c' := ⟨_, rfl⟩
      obtain ⟨n2, hn2⟩ : ∃ n, n = b' + c := ⟨_, rfl⟩
      obtain ⟨n3, hn3⟩ : ∃ n, n = a + c' := ⟨_, rfl⟩
      obtain ⟨n4, hn4⟩ : ∃ n, n = a' + c := ⟨_, rfl⟩
      obtain ⟨n5, hn5⟩ : ∃ n, n = a + b' := ⟨_, rfl⟩
      obtain ⟨n6, hn6⟩ : ∃ n, n = a' + b := ⟨_, rfl⟩
      have hX : mpX (a, b, c) (a', b', c') = lessI n1 n2 - lessI n5 n6 := by rw [hn1, hn2, hn5, hn6]; rfl
      have hY : mpY (a, b, c) (a', b', c') = lessI n3 n4 - lessI n5 n6 := by rw [hn3, hn4, hn5, hn6]; rfl
      rw [hX, hY]
      have q1 : IntKind.i64.wrap (b + c') = n1 := by rw [hn1]; exact IntWalk.i64_in _ (by omega)
      have q2 : IntKind.i64.wrap (b' + c) = n2 := by rw [hn2]; exact IntWalk.i64_in _ (by omega)
      have q3 : IntKind.i64.wrap (a + c') = n3 := by rw [hn3]; exact IntWalk.i64_in _ (by omega)
      have q4 : IntKind.i64.wrap (a' + c) = n4 := by rw [hn4]; exact IntWalk.i64_in _ (by omega)
      have q5 : IntKind.i64.wrap (a + b') = n5 := by rw [hn5]; exact IntWalk.i64_in _ (by omega)
      have q6 : IntKind.i64.wrap (a' + b) = n6 := by rw [hn6]; exact IntWalk.i64_in _ (by omega)
      have v1 := lessI_bd (m := 3000000) (a := n1) (b := n2) (by omega) (by omega)
      have v2 := lessI_bd (m := 3000000) (a := n3) (b := n4) (by omega) (by omega)
      have v3 := lessI_bd (m := 3000000) (a := n5) (b := n6) (by omega) (by omega)
      have m1 := min2 n1 n2
      have m2 := min2 n3 n4
      have m3 := min2 n5 n6
      generalize lessI n1 n2 = P at v1 m1 ⊢
      generalize lessI n3 n4 = Q at v2 m2 ⊢
      generalize lessI n5 n6 = R at v3 m3 ⊢
      obtain ⟨X, hX'⟩ : ∃ X, X = P - R := ⟨_, rfl⟩
      obtain ⟨Y, hY'⟩ : ∃ X, X = Q - R := ⟨_, rfl⟩
      have q7 : IntKind.i64.wrap (P - R) = X := by rw [hX']; exact IntWalk.i64_in _ (by omega)
      have q8 : IntKind.i64.wrap (Q - R) = Y := by rw [hY']; exact IntWalk.i64_in _ (by omega)
      rw [← hX', ← hY']
      have HP := Lib.hid (fun W => placeOrNone_any X Y W)
      clear hX' hY' hX hY hn1 hn2 hn3 hn4 hn5 hn6 v1 v2 v3 a1 a2 b1 b2 z1 z2 a3 a4 b3 b4 z3 z4 e1 e2 e3 h1 h2 hs ht
      go_enter Tryz.func5, Tryz.ntmps5
      go_wp2_with fail
      refine (I1.out _).mono ?_
      rintro e w1 ⟨rfl, g1⟩
      have s1 := HS.out.below g1.below
      obtain ⟨-, -, -, d0, d1, d2⟩ := s1
      have hl1 := cell_lt d0
      go_wp2_with fail
      refine (I2.out _).mono ?_
      rintro e w2 ⟨rfl, g2⟩
      have B2 := HB.out.trans (g1.trans g2)
      have s2 := HS.out.below (g1.trans g2).below
      clear d0 d1 d2 hl1 g1 g2
      obtain ⟨c0, c1, c2, d0, d1, d2⟩ := s2
      have l0 := cell_lt c0
      have l1 := cell_lt d0
      go_wp2_with fail
      refine (HP.out _).mono ?_
      rintro e w' ⟨rfl, rfl⟩
      go_wp2
      go_ret3
      exact ⟨rfl, B2⟩
set_option maxHeartbeats 1000000 in
set_option maxRecDepth 100000 in
theorem specSameLine_any (s t : Tm) (w : World) : Calls Tryz.prog 8 #[tmV s, tmV t] w fun e w' => e = .returned (.tuple #[.bool (smR s t), .bool (smO s t)]) ∧ Gr w w' := by
  have HS := Lib.hid (S6.new w s t 24 24)
  have HB := Lib.hid (gr_box2 w s t 24 24)
  have I1 := Lib.hid (fun W => lnGood_any s W)
  have I2 := Lib.hid (fun W => lnGood_any t W)
  cases h1 : lnB s
  · rw [h1] at I1
    obtain ⟨e1, e2⟩ := sm_no1 (t := t) h1
    rw [e1, e2]
    obtain ⟨a, b, c⟩ := s
    obtain ⟨a', b', c'⟩ := t
    clear h1 e1 e2
    go_enter Tryz.func8, Tryz.ntmps8
    go_wp2_with fail
    refine (I1.out _).mono ?_
    rintro e w1 ⟨rfl, g1⟩
    go_wp2
    go_ret2
    exact ⟨rfl, HB.out.trans g1⟩
  · rw [h1] at I1
    cases h2 : lnB t
    · rw [h2] at I2
      obtain ⟨e1, e2⟩ := sm_no2 (s := s) h2
      rw [e1, e2]
      obtain ⟨a, b, c⟩ := s
      obtain ⟨a', b', c'⟩ := t
      clear h1 h2 e1 e2
      go_enter Tryz.func8, Tryz.ntmps8
      go_wp2_with fail
      refine (I1.out _).mono ?_
      rintro e w1 ⟨rfl, g1⟩
      have s1 := HS.out.below g1.below
      obtain ⟨-, -, -, d0, d1, d2⟩ := s1
      have hl1 := cell_lt d0
      go_wp2_with fail
      refine (I2.out _).mono ?_
      rintro e w2 ⟨rfl, g2⟩
      have B2 := HB.out.trans (g1.trans g2)
      have s2 := HS.out.below (g1.trans g2).below
      clear d0 d1 d2 hl1 g1 g2
      clear s2
      go_wp2
      go_ret2
      exact ⟨rfl, B2⟩
    · rw [h2] at I2
      obtain ⟨e1, e2⟩ := sm_yes h1 h2
      rw [e1, e2]
      obtain ⟨⟨a1, a2⟩, ⟨b1, b2⟩, z1, z2⟩ := lnB_parts h1
      obtain ⟨⟨a3, a4⟩, ⟨b3, b4⟩, z3, z4⟩ := lnB_parts h2
      obtain ⟨a, b, c⟩ := s
      obtain ⟨a', b', c'⟩ := t
      dsimp only at a1 a2 b1 b2 z1 z2 a3 a4 b3 b4 z3 z4
      have q1 : IntKind.i64.wrap (c - a) = c - a := IntWalk.i64_in _ (by omega)
      have q2 : IntKind.i64.wrap (c' - a') = c' - a' := IntWalk.i64_in _ (by omega)
      have q3 : IntKind.i64.wrap (c - b) = c - b := IntWalk.i64_in _ (by omega)
      have q4 : IntKind.i64.wrap (c' - b') = c' - b' := IntWalk.i64_in _ (by omega)
      have HR := Lib.hid (show smB (a, b, c) (a', b', c') = (decide (c - a = c' - a') && decide (c - b = c' - b')) from rfl)
      rw [HR.out]
      clear a1 a2 b1 b2 z1 z2 a3 a4 b3 b4 z3 z4 e1 e2 h1 h2 HR
      by_cases hx : c - a = c' - a'
      · have hx1 : (c - a == c' - a') = true := by simpa using hx
        have HX := Lib.hid hx
        clear hx
        go_enter Tryz.func8, Tryz.ntmps8
        go_wp2_with fail
        refine (I1.out _).mono ?_
        rintro e w1 ⟨rfl, g1⟩
        have s1 := HS.out.below g1.below
        obtain ⟨-, -, -, d0, d1, d2⟩ := s1
        have hl1 := cell_lt d0
        go_wp2_with fail
        refine (I2.out _).mono ?_
        rintro e w2 ⟨rfl, g2⟩
        have B2 := HB.out.trans (g1.trans g2)
        have s2 := HS.out.below (g1.trans g2).below
        clear d0 d1 d2 hl1 g1 g2
        obtain ⟨c0, c1, c2, d0, d1, d2⟩ := s2
        have l0 := cell_lt c0
        have l1 := cell_lt d0
        go_wp2
        go_ret2
        exact ⟨ret_bb (by rw [decide_eq_true HX.out, Bool.true_and]; rw [Bool.eq_iff_iff]; simp) rfl, B2⟩
      · have hx1 : (c - a == c' - a') = false := by simpa using hx
        have HX := Lib.hid hx
        clear hx
        go_enter Tryz.func8, Tryz.ntmps8
        go_wp2_with fail
        refine (I1.out _).mono ?_
        rintro e w1 ⟨rfl, g1⟩
        have s1 := HS.out.below g1.below
        obtain ⟨-, -, -, d0, d1, d2⟩ := s1
        have hl1 := cell_lt d0
        go_wp2_with fail
        refine (I2.out _).mono ?_
        rintro e w2 ⟨rfl, g2⟩
        have B2 := HB.out.trans (g1.trans g2)
        have s2 := HS.out.below (g1.trans g2).below
        clear d0 d1 d2 hl1 g1 g2
        obtain ⟨c0, c1, c2, d0, d1, d2⟩ := s2
        have l0 := cell_lt c0
        have l1 := cell_lt d0
        go_wp2
        go_ret2
        exact ⟨ret_bb (by rw [decide_eq_false HX.out]; rfl) rfl, B2⟩
theorem eqV (a b c p q r : Int) (w : World) : (Op.equalIn 10000 53 (.agg #[.int .i64 a, .int .i64 b, .int .i64 c]) (.agg #[.int .i64 p, .int .i64 q, .int .i64 r])).run Tryz.prog w = .ok (a == p && (b == q && c == r)) w := by
  have u3 := Tryz.underlying3
  have a3 := Tryz.isAgg3
  have z3 := Tryz.sizeOf3
  rw [show (10000 : Nat) = 9999 + 1 from rfl, Op.equalIn]
  simp only [Sem.run_bind, run_underlying Tryz.underlying53, Result.andThen_ok]
  simp only [Std.Legacy.Range.forIn_eq_forIn_range', Std.Legacy.Range.size, Nat.sub_zero, Nat.add_sub_cancel, Nat.div_one, List.range'_succ, List.range'_zero, List.forIn_cons, List.forIn_nil]
  go_simp
  by_cases h1 : a = p <;> by_cases h2 : b = q <;> by_cases h3 : c = r <;> simp [h1, h2, h3]
set_option maxHeartbeats 1000000 in
set_option maxRecDepth 100000 in
theorem implSameLine_any (s t : Tm) (hs : wfT s) (ht : wfT t) (w : World) : Calls Tryz.prog 7 #[tmV s, tmV t] w fun e w' => e = .returned (.tuple #[.bool (smR s t), .bool (smO s t)]) ∧ Gr w w' := by
  have HS := Lib.hid (S6.new w s t 24 24)
  have HB := Lib.hid (gr_box2 w s t 24 24)
  have I1 := Lib.hid (fun W => implIsLine_any s hs W)
  have I2 := Lib.hid (fun W => implIsLine_any t ht W)
  cases h1 : lnB s
  · rw [h1] at I1
    obtain ⟨e1, e2⟩ := sm_no1 (t := t) h1
    rw [e1, e2]
    obtain ⟨a, b, c⟩ := s
    obtain ⟨a', b', c'⟩ := t
    clear h1 e1 e2 hs ht
    go_enter Tryz.func7, Tryz.ntmps7
    go_wp2_with fail
    refine (I1.out _).mono ?_
    rintro e w1 ⟨rfl, g1⟩
    go_wp2
    go_ret2
    exact ⟨rfl, HB.out.trans g1⟩
  · rw [h1] at I1
    cases h2 : lnB t
    · rw [h2] at I2
      obtain ⟨e1, e2⟩ := sm_no2 (s := s) h2
      rw [e1, e2]
      obtain ⟨a, b, c⟩ := s
      obtain ⟨a', b', c'⟩ := t
      clear h1 h2 e1 e2 hs ht
      go_enter Tryz.func7, Tryz.ntmps7
      go_wp2_with fail
      refine (I1.out _).mono ?_
      rintro e w1 ⟨rfl, g1⟩
      have s1 := HS.out.below g1.below
      obtain ⟨-, -, -, d0, d1, d2⟩ := s1
      have hl1 := cell_lt d0
      go_wp2_with fail
      refine (I2.out _).mono ?_
      rintro e w2 ⟨rfl, g2⟩
      have B2 := HB.out.trans (g1.trans g2)
      have s2 := HS.out.below (g1.trans g2).below
      clear d0 d1 d2 hl1 g1 g2
      clear s2
      go_wp2
      go_ret2
      exact ⟨rfl, B2⟩
    · rw [h2] at I2
      obtain ⟨e1, e2⟩ := sm_yes h1 h2
      rw [e1, e2]
      obtain ⟨⟨a1, a2⟩, ⟨b1, b2⟩, z1, z2⟩ := lnB_parts h1
      obtain ⟨⟨a3, a4⟩, ⟨b3, b4⟩, z3, z4⟩ := lnB_parts h2
      have C1 := Lib.hid (fun W => coefficientsOf_any s hs W)
      have C2 := Lib.hid (fun W => coefficientsOf_any t ht W)
      have A1 := Lib.hid (fun W => aboveLeast_any s ⟨⟨by omega, by omega⟩, ⟨by omega, by omega⟩, by omega, by omega⟩ W)
      have A2 := Lib.hid (fun W => aboveLeast_any t ⟨⟨by omega, by omega⟩, ⟨by omega, by omega⟩, by omega, by omega⟩ W)
      have m1 := least3_le s.1 s.2.1 s.2.2
      have m2 := least3_le t.1 t.2.1 t.2.2
      generalize least3 s.1 s.2.1 s.2.2 = m at A1 m1
      generalize least3 t.1 t.2.1 t.2.2 = n at A2 m2
      obtain ⟨a, b, c⟩ := s
      obtain ⟨a', b', c'⟩ := t
      dsimp only at A1 A2 m1 m2 a1 a2 b1 b2 z1 z2 a3 a4 b3 b4 z3 z4
      have HR := Lib.hid (show smB (a, b, c) (a', b', c') = (decide (a - m = a' - n) && (decide (b - m = b' - n) && decide (c - m = c' - n))) by
        show (decide (c - a = c' - a') && decide (c - b = c' - b')) = _
        rw [Bool.eq_iff_iff]
        simp only [Bool.and_eq_true, decide_eq_true_eq]
        omega)
      rw [HR.out]
      clear a1 a2 b1 b2 z1 z2 a3 a4 b3 b4 z3 z4 e1 e2 h1 h2 HR m1 m2 hs ht
      generalize a - m = p0 at A1 ⊢
      generalize b - m = p1 at A1 ⊢
      generalize c - m = p2 at A1 ⊢
      generalize a' - n = r0 at A2 ⊢
      generalize b' - n = r1 at A2 ⊢
      generalize c' - n = r2 at A2 ⊢
      go_enter Tryz.func7, Tryz.ntmps7
      go_wp2_with fail
      refine (I1.out _).mono ?_
      rintro e w1 ⟨rfl, g1⟩
      have s1 := HS.out.below g1.below
      obtain ⟨-, -, -, d0, d1, d2⟩ := s1
      have hl1 := cell_lt d0
      go_wp2_with fail
      refine (I2.out _).mono ?_
      rintro e w2 ⟨rfl, g2⟩
      have B2 := HB.out.trans (g1.trans g2)
      have s2 := HS.out.below (g1.trans g2).below
      clear d0 d1 d2 hl1 g1 g2
      obtain ⟨x0, x1, x2⟩ := T3.grown (show T3 w2 w.heap.size (a, b, c) from ⟨s2.1, s2.2.1, s2.2.2.1⟩)
      obtain ⟨y0, y1, y2⟩ := T3.grown (show T3 w2 (w.heap.size + 1) (a', b', c') from s2.2.2.2)
      clear s2
      have hE := eqV p0 p1 p2 r0 r1 r2
      go_wp2_with fail
      refine wp_region_quiet_grown (by kernel_rfl) (by kernel_rfl) ?_
      repeat (go_big_quiet_step ((first | (go_at_call 27; first | (with_reducible exact Calls.grown_of (C1.out _)) | (with_reducible exact Calls.grown_of (C2.out _))) | (go_at_call 28; first | (with_reducible exact Calls.grown_of (A1.out _)) | (with_reducible exact Calls.grown_of (A2.out _))))))
      refine wpQuiet_nil ?_
      intro _ hw'
      obtain ⟨⟨nq, osq⟩, hw''⟩ := hw'
      subst hw''
      go_wp2
      go_ret2
      exact ⟨ret_bb (by rw [Bool.eq_iff_iff]; simp) rfl, B2.trans ⟨nq, osq, rfl⟩⟩
end Go.Proofs.YtakamboflfkchaaGreatDoor
