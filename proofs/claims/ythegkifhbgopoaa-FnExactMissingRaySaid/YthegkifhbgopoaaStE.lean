/-
  Missing rays and supports: what the program's and the model's calls return.
  Condition: the slice reads as the list that is named.
-/
import Derived.Test.YthegkifhbgopoaaStB
namespace Go.Proofs.Ythegkifhbgopoaa
set_option linter.unusedSimpArgs false
set_option linter.unusedVariables false
open Go.ChangeShapes Go.WideShapes Go.ChangeAt Go.RowKit
open Go.Sort (grow)

theorem raO_wide {x y : Int} (hx : -4000 ≤ x ∧ x ≤ 4000) (hy : -4000 ≤ y ∧ y ≤ 4000) (hz : x ≠ 0 ∨ y ≠ 0) : 1 ≤ gI x y ∧ gI x y ≤ 4000 ∧ (-4000 ≤ x.tdiv (gI x y) ∧ x.tdiv (gI x y) ≤ 4000) ∧ -4000 ≤ y.tdiv (gI x y) ∧ y.tdiv (gI x y) ≤ 4000 :=
  ⟨gI_posL hz, gI_le1 hz hx hy, tdiv_bd hx, tdiv_bd hy⟩
set_option maxHeartbeats 2000000 in
set_option maxRecDepth 100000 in
theorem implMissingRay_any (w : World) (B : Nat) (v : Value) (l : List Tm) (h : RyS w B v l) : Calls Try.prog 33 #[v] w fun e w' => GivesR (misR l) (misB l) w e w' := by
  have h0 := B3.new w (0, 0, 0) 39
  have hb0 : Below w.heap.size w (w.alloc (.cells #[.int .i64 0, .int .i64 0, .int .i64 0] 39)) := (Below.refl _ _).alloc (Nat.le_refl _) _
  have HS := Lib.hid (implStarSum_any (w.alloc (.cells #[.int .i64 0, .int .i64 0, .int .i64 0] 39)) B v l (h.alloc _))
  have HZ := Lib.hid (And.intro h0 hb0)
  clear h0 hb0
  cases hl : ryB l
  · have HM := Lib.hid (misB_no1 hl)
    rw [hl] at HS
    clear hl h
    generalize sxR l = X at HS
    generalize syR l = Y at HS
    go_enter Try.func33, Try.ntmps33
    go_wp2_with fail
    refine HS.out.mono ?_
    rintro e w1 ⟨rfl, b1⟩
    obtain ⟨hc, f0, f1, f2⟩ := HZ.out.1.below b1
    have HC := Lib.hid hc
    obtain ⟨c0, c1, c2⟩ := hc
    have hl := cell_lt c0
    have B1 := bel2 HZ.out.2 b1
    clear b1
    go_wp2
    refine bodyPost_ret (T3.resultsR (t := (0, 0, 0)) (g := w.heap.size) (T3.stores (s := (0, 0, 0)) HC.out (0, 0, 0)) rfl rfl rfl) rfl ⟨ret_tb (misR_no HM.out).symm HM.out.symm, ?_⟩
    exact bel3 B1 (Nat.le_refl _) _ _ _
  · obtain ⟨e1, e2⟩ := sR_yes hl
    obtain ⟨d1, d2⟩ := sA_end hl
    have HB := Lib.hid (baB_is hl)
    rw [hl, e1, e2] at HS
    cases hb : baB l
    · have HM := Lib.hid (misB_is hl hb)
      rw [hb] at HB
      have HY := Lib.hid (fun (hh : misB l = true) => misR_yes hh)
      rw [HM.out] at HY ⊢
      have hne : sxA l l.length ≠ 0 ∨ syA l l.length ≠ 0 := by
        have := HB.out
        by_cases q1 : sxA l l.length = 0
        · refine .inr fun q2 => ?_
          rw [q1, q2] at this; cases this
        · exact .inl q1
      have HN := Lib.hid (fun (hh : misB l = false) => misR_no hh)
      rw [HM.out] at HN
      generalize sxA l l.length = X at HS HY hne d1 HM HN ⊢
      generalize syA l l.length = Y at HS HY hne d2 HM HN ⊢
      have HR := Lib.hid (fun W => rayAlong_any (-X) (-Y) W (by omega) (by omega) (by omega))
      have q1 : IntKind.i64.wrap (-X) = -X := IntWalk.i64_in _ (by omega)
      have q2 : IntKind.i64.wrap (-Y) = -Y := IntWalk.i64_in _ (by omega)
      generalize raO (-X) (-Y) = t at HR HM HY HN ⊢
      have HT := Lib.hid (fun W => isRay_any t W)
      have hxy : (X == 0 && Y == 0) = false := by
        rcases hne with h | h <;> simp [h]
      clear HB hl hb e1 e2 d1 d2 h HM
      by_cases hx0 : X = 0
      · have hy0 : (Y == 0) = false := by
          simp only [beq_eq_false_iff_ne]; omega
        subst hx0
        clear hne hxy
        go_enter Try.func33, Try.ntmps33
        go_wp2_with fail
        refine HS.out.mono ?_
        rintro e w1 ⟨rfl, b1⟩
        have HC := Lib.hid (HZ.out.1.below b1)
        have B1 := bel2 HZ.out.2 b1
        clear b1
        go_wp2_with fail
        refine (HR.out _).mono ?_
        rintro e w2 ⟨rfl, b2⟩
        have HC2 := Lib.hid (HC.out.below b2)
        have B2 := bel2 B1 b2
        clear b2
        have hn := T3.new w2 t 39
        have hnl : w2.heap.size < (w2.alloc (.cells #[.int .i64 t.1, .int .i64 t.2.1, .int .i64 t.2.2] 39)).heap.size := cell_lt hn.1
        have HC3 := Lib.hid (HC2.out.below ((Below.refl _ w2).alloc (Nat.le_refl _) (.cells #[.int .i64 t.1, .int .i64 t.2.1, .int .i64 t.2.2] 39)))
        have B3' := B2.alloc B2.size (.cells #[.int .i64 t.1, .int .i64 t.2.1, .int .i64 t.2.2] 39)
        go_wp2_with fail
        refine (HT.out _).mono ?_
        rintro e w3 ⟨rfl, b3⟩
        have hn3 := T3.below hn b3.below
        obtain ⟨hc, f0, f1, f2⟩ := HC3.out.below b3.below
        have B4 := bel2 B3' b3.below
        have HC := Lib.hid hc
        obtain ⟨c0, c1, c2⟩ := hc
        obtain ⟨n0, n1, n2⟩ := hn3
        have hl := cell_lt c0
        have hl2 := cell_lt n0
        clear b3 hn B3' hnl
        cases hq : ryT t
        · have HQ := Lib.hid (HN.out hq)
          go_wp2
          refine bodyPost_ret (T3.resultsR (t := (0, 0, 0)) (g := w.heap.size) (T3.stores (s := (0, 0, 0)) HC.out (0, 0, 0)) rfl rfl rfl) rfl ⟨ret_tb HQ.out.symm hq.symm, ?_⟩
          exact bel3 B4 (Nat.le_refl _) _ _ _
        · have HQ := Lib.hid (HY.out hq)
          go_wp2
          refine bodyPost_ret (T3.resultsR (t := t) (g := w.heap.size) (T3.stores (s := (0, 0, 0)) HC.out t) rfl rfl rfl) rfl ⟨ret_tb HQ.out.symm hq.symm, ?_⟩
          exact bel3 B4 (Nat.le_refl _) _ _ _
      · have hx0' : (X == 0) = false := by simpa using hx0
        clear hne hxy
        go_enter Try.func33, Try.ntmps33
        go_wp2_with fail
        refine HS.out.mono ?_
        rintro e w1 ⟨rfl, b1⟩
        have HC := Lib.hid (HZ.out.1.below b1)
        have B1 := bel2 HZ.out.2 b1
        clear b1
        go_wp2_with fail
        refine (HR.out _).mono ?_
        rintro e w2 ⟨rfl, b2⟩
        have HC2 := Lib.hid (HC.out.below b2)
        have B2 := bel2 B1 b2
        clear b2
        have hn := T3.new w2 t 39
        have hnl : w2.heap.size < (w2.alloc (.cells #[.int .i64 t.1, .int .i64 t.2.1, .int .i64 t.2.2] 39)).heap.size := cell_lt hn.1
        have HC3 := Lib.hid (HC2.out.below ((Below.refl _ w2).alloc (Nat.le_refl _) (.cells #[.int .i64 t.1, .int .i64 t.2.1, .int .i64 t.2.2] 39)))
        have B3' := B2.alloc B2.size (.cells #[.int .i64 t.1, .int .i64 t.2.1, .int .i64 t.2.2] 39)
        go_wp2_with fail
        refine (HT.out _).mono ?_
        rintro e w3 ⟨rfl, b3⟩
        have hn3 := T3.below hn b3.below
        obtain ⟨hc, f0, f1, f2⟩ := HC3.out.below b3.below
        have B4 := bel2 B3' b3.below
        have HC := Lib.hid hc
        obtain ⟨c0, c1, c2⟩ := hc
        obtain ⟨n0, n1, n2⟩ := hn3
        have hl := cell_lt c0
        have hl2 := cell_lt n0
        clear b3 hn B3' hnl
        cases hq : ryT t
        · have HQ := Lib.hid (HN.out hq)
          go_wp2
          refine bodyPost_ret (T3.resultsR (t := (0, 0, 0)) (g := w.heap.size) (T3.stores (s := (0, 0, 0)) HC.out (0, 0, 0)) rfl rfl rfl) rfl ⟨ret_tb HQ.out.symm hq.symm, ?_⟩
          exact bel3 B4 (Nat.le_refl _) _ _ _
        · have HQ := Lib.hid (HY.out hq)
          go_wp2
          refine bodyPost_ret (T3.resultsR (t := t) (g := w.heap.size) (T3.stores (s := (0, 0, 0)) HC.out t) rfl rfl rfl) rfl ⟨ret_tb HQ.out.symm hq.symm, ?_⟩
          exact bel3 B4 (Nat.le_refl _) _ _ _
    · have HM := Lib.hid (misB_no2 hb)
      have hz : sxA l l.length = 0 ∧ syA l l.length = 0 := by
        have := HB.out
        rw [hb] at this
        have := this.symm
        simpa using this
      rw [hz.1, hz.2] at HS
      clear hl h hz e1 e2 d1 d2 HB hb
      go_enter Try.func33, Try.ntmps33
      go_wp2_with fail
      refine HS.out.mono ?_
      rintro e w1 ⟨rfl, b1⟩
      obtain ⟨hc, f0, f1, f2⟩ := HZ.out.1.below b1
      have HC := Lib.hid hc
      obtain ⟨c0, c1, c2⟩ := hc
      have hl := cell_lt c0
      have B1 := bel2 HZ.out.2 b1
      clear b1
      go_wp2
      refine bodyPost_ret (T3.resultsR (t := (0, 0, 0)) (g := w.heap.size) (T3.stores (s := (0, 0, 0)) HC.out (0, 0, 0)) rfl rfl rfl) rfl ⟨ret_tb (misR_no HM.out).symm HM.out.symm, ?_⟩
      exact bel3 B1 (Nat.le_refl _) _ _ _
set_option maxHeartbeats 2000000 in
set_option maxRecDepth 100000 in
theorem specMissingRay_any (w : World) (B : Nat) (v : Value) (l : List Tm) (h : RyS w B v l) : Calls Try.prog 32 #[v] w fun e w' => GivesR (misR l) (misB l) w e w' := by
  have h0 := B3.new w (0, 0, 0) 39
  have hb0 : Below w.heap.size w (w.alloc (.cells #[.int .i64 0, .int .i64 0, .int .i64 0] 39)) := (Below.refl _ _).alloc (Nat.le_refl _) _
  have hA : RyS (w.alloc (.cells #[.int .i64 0, .int .i64 0, .int .i64 0] 39)) B v l := h.alloc _
  have HS := Lib.hid (stGood_any (w.alloc (.cells #[.int .i64 0, .int .i64 0, .int .i64 0] 39)) B v l hA)
  have HZ := Lib.hid (And.intro h0 hb0)
  have HA := Lib.hid hA
  clear h0 hb0 hA
  cases hl : ryB l
  · have HM := Lib.hid (misB_no1 hl)
    rw [hl] at HS
    clear hl h
    go_enter Try.func32, Try.ntmps32
    go_wp2_with fail
    refine HS.out.mono ?_
    rintro e w1 ⟨rfl, b1⟩
    obtain ⟨hc, f0, f1, f2⟩ := HZ.out.1.below b1
    have HC := Lib.hid hc
    obtain ⟨c0, c1, c2⟩ := hc
    have hl := cell_lt c0
    have B1 := bel2 HZ.out.2 b1
    clear b1
    go_wp2
    refine bodyPost_ret (T3.resultsR (t := (0, 0, 0)) (g := w.heap.size) (T3.stores (s := (0, 0, 0)) HC.out (0, 0, 0)) rfl rfl rfl) rfl ⟨ret_tb (misR_no HM.out).symm HM.out.symm, ?_⟩
    exact bel3 B1 (Nat.le_refl _) _ _ _
  · obtain ⟨d1, d2⟩ := sA_end hl
    have HB := Lib.hid (baB_is hl)
    have HL := Lib.hid hl
    rw [hl] at HS
    have HSB := Lib.hid (fun W (hW : RyS W B v l) => stBalanced_any W B v l hW HL.out)
    cases hb : baB l
    · have HM := Lib.hid (misB_is hl hb)
      rw [hb] at HB HSB
      have HY := Lib.hid (fun (hh : misB l = true) => misR_yes hh)
      rw [HM.out] at HY ⊢
      have hne : sxA l l.length ≠ 0 ∨ syA l l.length ≠ 0 := by
        have := HB.out
        by_cases q1 : sxA l l.length = 0
        · refine .inr fun q2 => ?_
          rw [q1, q2] at this; cases this
        · exact .inl q1
      have HN := Lib.hid (fun (hh : misB l = false) => misR_no hh)
      rw [HM.out] at HN
      have HSS := Lib.hid (fun W (hW : RyS W B v l) => stSum_any W B v l hW HL.out)
      generalize sxA l l.length = X at HSS HY hne d1 HM HN ⊢
      generalize syA l l.length = Y at HSS HY hne d2 HM HN ⊢
      have q1 : IntKind.i64.wrap (-X) = -X := IntWalk.i64_in _ (by omega)
      have q2 : IntKind.i64.wrap (-Y) = -Y := IntWalk.i64_in _ (by omega)
      have HX := Lib.hid (fun W => l1Abs_any X W (by unfold wide; omega))
      have HYA := Lib.hid (fun W => l1Abs_any Y W (by unfold wide; omega))
      have HC0 := Lib.hid (fun W => show Calls Try.prog 62 #[.int .i64 (X.natAbs : Int), .int .i64 (Y.natAbs : Int)] W fun e w' => e = .returned (.int .i64 (gI (-X) (-Y))) ∧ W = w' from by rw [gI_neg]; exact stCommon_any X.natAbs Y.natAbs (by omega) (by omega) W)
      obtain ⟨g1, g2, g3, g4⟩ := raO_wide (x := -X) (y := -Y) (by omega) (by omega) (by omega)
      have HRO := Lib.hid (show raO (-X) (-Y) = ((-X).tdiv (gI (-X) (-Y)), (-Y).tdiv (gI (-X) (-Y)), gI (-X) (-Y)) from rfl)
      generalize gI (-X) (-Y) = g at HC0 g1 g2 g3 g4 HRO
      obtain ⟨q, e1⟩ : ∃ q, (-X).tdiv g = q := ⟨_, rfl⟩
      obtain ⟨r, e2⟩ : ∃ r, (-Y).tdiv g = r := ⟨_, rfl⟩
      rw [e1, e2] at HRO
      rw [e1] at g3
      rw [e2] at g4
      rw [HRO.out] at HY HN ⊢
      have hgz : (g == 0) = false := by simp; omega
      have z1 : IntKind.i64.wrap q = q := IntWalk.i64_in _ (by omega)
      have z2 : IntKind.i64.wrap r = r := IntWalk.i64_in _ (by omega)
      obtain ⟨g5, g6⟩ := g3
      obtain ⟨g7, g8⟩ := g4
      have HT := Lib.hid (fun W => stRay_any (q, r, g) W)
      clear HB hl hb d1 d2 h HM hne HRO
      go_enter Try.func32, Try.ntmps32
      go_wp2_with fail
      refine HS.out.mono ?_
      rintro e w1 ⟨rfl, b1⟩
      have HC := Lib.hid (HZ.out.1.below b1)
      have B1 := bel2 HZ.out.2 b1
      have HA1 := Lib.hid (HA.out.below b1)
      clear b1
      go_wp2_with fail
      refine (HSB.out _ HA1.out).mono ?_
      rintro e w2 ⟨rfl, b2⟩
      have HC2 := Lib.hid (HC.out.below b2)
      have B2 := bel2 B1 b2
      have HA2 := Lib.hid (HA1.out.below b2)
      clear b2 B1
      go_wp2_with fail
      refine (HSS.out _ HA2.out).mono ?_
      rintro e w3 ⟨rfl, b3⟩
      have HC3 := Lib.hid (HC2.out.below b3)
      have B3' := bel2 B2 b3
      clear b3 B2
      go_wp2_with fail
      refine (HX.out _).mono ?_
      rintro e w' ⟨rfl, rfl⟩
      go_wp2_with fail
      refine (HYA.out _).mono ?_
      rintro e w' ⟨rfl, rfl⟩
      go_wp2_with fail
      refine (HC0.out _).mono ?_
      rintro e w' ⟨rfl, rfl⟩
      have hs3 := B3'.size
      go_upto_region 5 with fail
      go_cut [2, 7] (fun p k wx => p = .pointer (some ⟨w.heap.size, 0, none⟩) ∧ k = .pointer (some ⟨w3.heap.size, 0, none⟩) ∧ Hid (B3 wx w.heap.size (0, 0, 0)) ∧ Hid (T3 wx w3.heap.size (q, r, g)) ∧ Hid (Below w.heap.size w wx))
      case first =>
        go_region
        all_goals
          go_wp2_with fail
          go_meet
          refine ⟨rfl, rfl, Lib.hid ?_, Lib.hid ?_, Lib.hid ?_⟩
          · exact HC3.out.below (((Below.refl _ w3).alloc (Nat.le_refl _) _).drew)
          · exact T3.new w3 (q, r, g) 39
          · exact (B3'.alloc hs3 _).drew
      case rest =>
        obtain ⟨rfl, rfl, hb3, ht3, hbw⟩ := hcut
        generalize wc = W at hb3 ht3 hbw ⊢
        have htt := ht3.out
        obtain ⟨n0, n1, n2⟩ := htt
        have hl2 := cell_lt n0
        clear e1 e2 z1 z2 hgz q1 q2
        go_wp2_with fail
        refine (HT.out _).mono ?_
        rintro e w4 ⟨rfl, b4⟩
        have hn3 := T3.below ht3.out b4.below
        obtain ⟨hc, f0, f1, f2⟩ := hb3.out.below b4.below
        have B4 := bel2 hbw.out b4.below
        have HCc := Lib.hid hc
        obtain ⟨c0, c1, c2⟩ := hc
        clear n0 n1 n2 hl2
        obtain ⟨n0, n1, n2⟩ := hn3
        have hl := cell_lt c0
        have hl2 := cell_lt n0
        clear b4
        cases hq : ryT (q, r, g)
        · have HQ := Lib.hid (HN.out hq)
          go_wp2
          refine bodyPost_ret (T3.resultsR (t := (0, 0, 0)) (g := w.heap.size) (T3.stores (s := (0, 0, 0)) HCc.out (0, 0, 0)) rfl rfl rfl) rfl ⟨ret_tb HQ.out.symm hq.symm, ?_⟩
          exact bel3 B4 (Nat.le_refl _) _ _ _
        · have HQ := Lib.hid (HY.out hq)
          go_wp2
          refine bodyPost_ret (T3.resultsR (t := (q, r, g)) (g := w.heap.size) (T3.stores (s := (0, 0, 0)) HCc.out (q, r, g)) rfl rfl rfl) rfl ⟨ret_tb HQ.out.symm hq.symm, ?_⟩
          exact bel3 B4 (Nat.le_refl _) _ _ _
    · have HM := Lib.hid (misB_no2 hb)
      rw [hb] at HSB
      clear hl h d1 d2 HB hb
      go_enter Try.func32, Try.ntmps32
      go_wp2_with fail
      refine HS.out.mono ?_
      rintro e w1 ⟨rfl, b1⟩
      have HC1 := Lib.hid (HZ.out.1.below b1)
      have B1 := bel2 HZ.out.2 b1
      have HA1 := Lib.hid (HA.out.below b1)
      clear b1
      go_wp2_with fail
      refine (HSB.out _ HA1.out).mono ?_
      rintro e w2 ⟨rfl, b2⟩
      obtain ⟨hc, f0, f1, f2⟩ := HC1.out.below b2
      have HC := Lib.hid hc
      obtain ⟨c0, c1, c2⟩ := hc
      have hl := cell_lt c0
      have B2 := bel2 B1 b2
      clear b2 B1
      go_wp2
      refine bodyPost_ret (T3.resultsR (t := (0, 0, 0)) (g := w.heap.size) (T3.stores (s := (0, 0, 0)) HC.out (0, 0, 0)) rfl rfl rfl) rfl ⟨ret_tb (misR_no HM.out).symm HM.out.symm, ?_⟩
      exact bel3 B2 (Nat.le_refl _) _ _ _
end Go.Proofs.Ythegkifhbgopoaa
