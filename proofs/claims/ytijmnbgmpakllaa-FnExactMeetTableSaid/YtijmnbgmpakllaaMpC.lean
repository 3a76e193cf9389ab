import Derived.Test.YtijmnbgmpakllaaMpB
/-
  Sums of multiplicities, counts and degrees of stars, in the program.
  Condition: the slices read as the lists that are named.
-/
namespace Go.Proofs.Ytijmnbgmpakllaa
set_option linter.unusedSimpArgs false
set_option linter.unusedVariables false
open Go.ChangeShapes Go.WideShapes Go.ChangeAt Go.RowKit
open Go.Sort (grow)

set_option maxHeartbeats 2000000 in
set_option maxRecDepth 100000 in
theorem implMeetSum_any (w : World) (B1 B2 : Nat) (v1 v2 : Value) (a b : List Tm) (x y : Int) (h1 : RyS w B1 v1 a) (h2 : RyS w B2 v2 b) : Calls Try.prog 31 #[v1, v2, .int .i64 x, .int .i64 y] w fun e w' => GivesIbM (okI (asB a b x y) (meS a b x y)) (asB a b x y) w e w' := by
  have HPR := Lib.hid (implMeetingPairs_any w B1 B2 v1 v2 a b x y h1 h2)
  obtain ⟨A1, c1, rfl, hm1, hp1⟩ := RyS.parts h1
  obtain ⟨A2, c2, rfl, hm2, hp2⟩ := RyS.parts h2
  cases hg : asB a b x y
  · rw [hg] at HPR
    have HN := Lib.hid (mpR_no hg)
    clear h1 h2 hp1 hp2 hg
    go_enter Try.func31, Try.ntmps31
    go_wp2_with fail
    refine HPR.out.mono ?_
    rintro e w2 ⟨r, R, rfl, hR, eR, b2⟩
    have hR0 : R = [] := by
      have := lls_len R
      rw [eR, HN.out] at this
      exact List.eq_nil_of_length_eq_zero this.symm
    subst hR0
    obtain ⟨AR, capR, rfl, -, -⟩ := hR.parts
    clear hR eR
    go_wp2
    go_rounds 1
    go_ret2
    exact ⟨rfl, b2⟩
  · rw [hg] at HPR
    have HMP := Lib.hid (mpR_yes hg)
    obtain ⟨ha, hb, hm, -, -⟩ := asB_parts hg
    have HP1 := Lib.hid hp1
    have HP2 := Lib.hid hp2
    obtain ⟨n, hn⟩ : ∃ n, n = a.length := ⟨_, rfl⟩
    obtain ⟨m, hmm⟩ : ∃ m, m = b.length := ⟨_, rfl⟩
    have HN := Lib.hid hn
    have HM := Lib.hid hmm
    have HA := Lib.hid ha
    have HBB := Lib.hid hb
    rw [← hn] at HPR hm1 ⊢
    rw [← hmm] at HPR hm2 ⊢
    have hn10 : n ≤ 10 := by rw [hn]; exact ryB_le ha
    have hm10 : m ≤ 10 := by rw [hmm]; exact ryB_le hb
    clear h1 h2 ha hb hm hp1 hp2 hn hmm hm1 hm2 hg
    obtain ⟨L, hL⟩ : ∃ L, L = pmA a b x y := ⟨_, rfl⟩
    have HMEM := Lib.hid (show ∀ p ∈ L, p.1 < a.length ∧ p.2 < b.length from fun p hp => by
      rw [hL] at hp
      obtain ⟨q1, q2, -⟩ := pmN_mem.1 hp
      exact ⟨q1, q2⟩)
    have HLEN := Lib.hid (show L.length ≤ 100 from by
      rw [hL]
      exact Nat.le_trans (pmN_len x y a.length) (Nat.mul_le_mul (ryB_le HA.out) (ryB_le HBB.out)))
    rw [okI_yes rfl]
    unfold meS
    rw [HMP.out] at HPR
    rw [← hL] at HPR ⊢
    clear hL HMP
    go_enter Try.func31, Try.ntmps31
    go_wp2_with fail
    refine HPR.out.mono ?_
    rintro e w2 ⟨r, R, rfl, hR, eR, b2⟩
    obtain ⟨AR, capR, rfl, -, hpr⟩ := hR.parts
    have HPP := Lib.hid hpr
    have HV := Lib.hid hR.2
    have HER := Lib.hid eR
    have HB2 := Lib.hid b2
    obtain ⟨np, hnp⟩ : ∃ np, np = R.length := ⟨_, rfl⟩
    have hnl : np = L.length := by rw [hnp, ← lls_len, eR, p2L_len]
    have hnp100 : np ≤ 100 := by rw [hnl]; exact HLEN.out
    have HNP := Lib.hid hnp
    have HNL := Lib.hid hnl
    rw [← hnp]
    clear hR eR hpr b2 hnp hnl HPR
    go_wp2
    go_loopw [12, 25] (fun s i wr => ∃ j : Nat, j ≤ np ∧ s = .int .i64 (suP a b (L.take j)) ∧ i = .int .i64 j ∧ Below w2.heap.size w2 wr) (fun _ i _ => np - (intOf i).toNat)
    case atStart => exact ⟨0, by omega, rfl, rfl, Below.refl _ _⟩
    case round =>
      obtain ⟨j, hj, rfl, rfl, hb⟩ := hrel
      by_cases hlt : j < np
      · have hjl : j < L.length := by rw [← HNL.out]; exact hlt
        have hjr : j < R.length := by rw [← HNP.out]; exact hlt
        have HNX := Lib.hid (suP_next (a := a) (b := b) hjl)
        obtain ⟨p, hp⟩ : ∃ p, p = L[j] := ⟨_, rfl⟩
        have hpm : p ∈ L := by rw [hp]; exact List.getElem_mem hjl
        rw [← hp] at HNX
        have hpl : pll R j = [(p.1 : Int), (p.2 : Int)] := by
          have e1 : (lls R)[j]? = some (pll R j) := lls_at hjr
          rw [HER.out] at e1
          unfold p2L at e1
          rw [List.getElem?_map, List.getElem?_eq_getElem hjl, ← hp] at e1
          exact (Option.some.inj e1).symm
        obtain ⟨hp1, hp2⟩ := HMEM.out p hpm
        obtain ⟨s1, s2⟩ := suP_bd HA.out HBB.out (L.take j) fun q hq => HMEM.out q (List.mem_of_mem_take hq)
        have s3 : (L.take j).length ≤ 100 := Nat.le_trans (List.length_take_le _ _) (by omega)
        obtain ⟨-, m1, m2⟩ := mu_bd (ryB_at HA.out hp1) (ryB_at HBB.out hp2)
        have HT := Lib.hid (fun W => multOf_any (td a p.1) (td b p.2) W (ryB_at HA.out hp1) (ryB_at HBB.out hp2))
        obtain ⟨g1, rfl, hx1⟩ := HP1.out p.1 hp1
        obtain ⟨g2, rfl, hx2⟩ := HP2.out p.2 hp2
        have hbw := bel2 HB2.out hb
        have y1 := X3.below hx1 hbw
        have y2 := X3.below hx2 hbw
        obtain ⟨gR, rfl, hc0⟩ := HPP.out j hjr
        have hc1 := X3.below.box_old3 hc0 hb
        have his := (HV.out.at hjr).below hb
        rw [hpl] at his
        obtain ⟨sv, hsv⟩ : ∃ sv, sv = pvl R j := ⟨_, rfl⟩
        rw [← hsv] at hc1 his
        obtain ⟨As, cs, rfl, -, hps⟩ := his.parts
        obtain ⟨gs, rfl, z0⟩ := hps 0 (by simp)
        obtain ⟨gs', hgs, z1⟩ := hps 1 (by simp)
        cases hgs
        rw [show ([(p.1 : Int), (p.2 : Int)] : List Int).length = 2 from rfl] at hc1
        have d0 : wr.cell? ⟨gs, 0, none⟩ = some (.int .i64 (p.1 : Int)) := z0
        have d1 : wr.cell? ⟨gs, 1, none⟩ = some (.int .i64 (p.2 : Int)) := z1
        have hi1 : p.1 < n := by rw [HN.out]; exact hp1
        have hi2 : p.2 < m := by rw [HM.out]; exact hp2
        have hj1 : (p.1 : Int) < (n : Int) := by omega
        have hj2 : (p.2 : Int) < (m : Int) := by omega
        obtain ⟨S, hS⟩ : ∃ S, S = suP a b (L.take j) := ⟨_, rfl⟩
        obtain ⟨M, hM⟩ : ∃ M, M = muR (td a p.1) (td b p.2) := ⟨_, rfl⟩
        rw [← hS] at s1 s2 HNX ⊢
        rw [← hM] at m1 m2 HT HNX
        have q1 : IntKind.i64.wrap (S + M) = S + M := IntWalk.i64_in _ (by omega)
        obtain ⟨i1, i2⟩ := p
        dsimp only at *
        generalize td a i1 = t1 at y1 HT
        generalize td b i2 = t2 at y2 HT
        obtain ⟨u0, u1, u2⟩ := X3.grown y1
        obtain ⟨r0, r1, r2⟩ := X3.grown y2
        have k0 := cell_grown (cell_lt d0) d0
        have k1 := cell_grown (cell_lt d1) d1
        have hlR : gR < wr.heap.size := cell_lt hc1
        have hls : gs < wr.heap.size := cell_lt d0
        have hl1 : g1 < wr.heap.size := cell_lt y1.1
        have hl2 : g2 < wr.heap.size := cell_lt y2.1
        have HB := Lib.hid hb
        clear hx1 hx2 hbw hc0 his hsv hps z0 z1 hpl hpm hp hp1 hp2 s1 s2 s3 m1 m2 hS hM hb y1 y2
        go_wp2
        refine wp_region_quiet_grown (by kernel_rfl) (by kernel_rfl) ?_
        repeat (go_big_quiet_step ((go_at_call 51; refine Calls.grown_of (HT.out _))))
        refine wpQuiet_nil ?_
        intro _ hw'
        obtain ⟨⟨nq, osq⟩, hw''⟩ := hw'
        subst hw''
        have hbn := bel2 HB.out (grB nq osq)
        go_wp2
        go_roundw
        case rel => exact ⟨j + 1, by omega, by rw [HNX.out], by go_num, hbn⟩
        case measure => simp [intOf]; omega
      · obtain rfl : j = np := by omega
        have hall : L.take j = L := List.take_of_length_le (by rw [← HNL.out]; exact Nat.le_refl _)
        rw [hall]
        have hbz := bel2 HB2.out hb
        go_wp2
        go_ret2
        exact ⟨rfl, hbz⟩
theorem fr_1000 {l : List Tm} (h : ryB l = true) : frL1 l 1000 1 = true := frL1_yes fun j hj => by
  have ht := ryB_at h hj
  obtain ⟨h1, h2, h3, h4, -⟩ := ryT_parts ht
  have hn := ryT_ne ht
  unfold mvX
  omega
theorem as_1000 {a b : List Tm} (ha : ryB a = true) (hb : ryB b = true) : asB a b 1000 1 = true := asB_yes ha hb mvM_1000 (fr_1000 ha) (fr_1000 hb)
set_option maxHeartbeats 1000000 in
set_option maxRecDepth 100000 in
theorem implMeetCount_any (w : World) (B1 B2 : Nat) (v1 v2 : Value) (a b : List Tm) (h1 : RyS w B1 v1 a) (h2 : RyS w B2 v2 b) : Calls Try.prog 33 #[v1, v2] w fun e w' => GivesIbM (okI (twS a b) (meC a b)) (twS a b) w e w' := by
  have H1 := Lib.hid h1
  have H2 := Lib.hid h2
  obtain ⟨A1, c1, rfl, -, -⟩ := RyS.parts h1
  obtain ⟨A2, c2, rfl, -, -⟩ := RyS.parts h2
  clear h1 h2
  have i0 : ∀ W, (Instr.index 77 (.agg #[.slice A1 a.length c1, .slice A2 b.length c2]) (.int .i64 0)).run Try.prog W = .ok (.slice A1 a.length c1) W := fun _ => by kernel_rfl
  have i1 : ∀ W, (Instr.index 77 (.agg #[.slice A1 a.length c1, .slice A2 b.length c2]) (.int .i64 1)).run Try.prog W = .ok (.slice A2 b.length c2) W := fun _ => by kernel_rfl
  cases g1 : baB a
  · have G1 := Lib.hid g1
    clear g1
    go_enter Try.func33, Try.ntmps33
    go_wp2_with fail
    refine wp_loop_rounds 3 ?_
    rw [rounds_succ]
    go_wp2_with fail
    refine (implIsBalanced_any _ B1 _ a H1.out).mono ?_
    rintro e x1 ⟨rfl, b1⟩
    rw [G1.out]
    go_wp2
    go_ret2
    exact givesIbM_of (okI_no (twS_no1 G1.out)) (twS_no1 G1.out) b1
  · have G1 := Lib.hid g1
    clear g1
    cases g2 : baB b
    · have G2 := Lib.hid g2
      clear g2
      go_enter Try.func33, Try.ntmps33
      go_wp2_with fail
      refine wp_loop_rounds 3 ?_
      rw [rounds_succ]
      go_wp2_with fail
      refine (implIsBalanced_any _ B1 _ a H1.out).mono ?_
      rintro e x1 ⟨rfl, b1⟩
      rw [G1.out]
      go_wp2_with fail
      rw [rounds_succ]
      go_wp2_with fail
      refine (implIsBalanced_any _ B2 _ b (FS.below H2.out b1)).mono ?_
      rintro e x2 ⟨rfl, b2⟩
      have bb := bel2 b1 b2
      rw [G2.out]
      go_wp2
      go_ret2
      exact givesIbM_of (okI_no (twS_no2 G2.out)) (twS_no2 G2.out) bb
    · have G2 := Lib.hid g2
      clear g2
      have R1 := Lib.hid (baB_ry G1.out)
      have R2 := Lib.hid (baB_ry G2.out)
      have AS := Lib.hid (as_1000 R1.out R2.out)
      go_enter Try.func33, Try.ntmps33
      go_wp2_with fail
      refine wp_loop_rounds 3 ?_
      rw [rounds_succ]
      go_wp2_with fail
      refine (implIsBalanced_any _ B1 _ a H1.out).mono ?_
      rintro e x1 ⟨rfl, b1⟩
      rw [G1.out]
      go_wp2_with fail
      rw [rounds_succ]
      go_wp2_with fail
      refine (implIsBalanced_any _ B2 _ b (FS.below H2.out b1)).mono ?_
      rintro e x2 ⟨rfl, b2⟩
      have bb := bel2 b1 b2
      rw [G2.out]
      go_wp2_with fail
      rw [rounds_succ]
      go_wp2_with fail
      refine (implMeetSum_any _ B1 B2 _ _ a b 1000 1 (FS.below H1.out bb) (FS.below H2.out bb)).mono ?_
      rintro e x3 ⟨rfl, b3⟩
      replace bb := bel2 bb b3
      rw [AS.out]
      go_wp2
      go_ret2
      exact givesIbM_of (by rw [okI_yes (twS_yes G1.out G2.out), okI_yes rfl]; rfl) (twS_yes G1.out G2.out) bb
theorem twS_self (a : List Tm) : twS a a = baB a := by unfold twS; cases baB a <;> rfl
theorem implSelfCount_any (w : World) (B : Nat) (v : Value) (a : List Tm) (h : RyS w B v a) : Calls Try.prog 35 #[v] w fun e w' => GivesIbM (okI (baB a) (meC a a)) (baB a) w e w' := by
  have HC := Lib.hid (implMeetCount_any w B B v v a a h h)
  rw [twS_self] at HC
  obtain ⟨A1, c1, rfl, -, -⟩ := RyS.parts h
  clear h
  go_enter Try.func35, Try.ntmps35
  go_wp2_with fail
  refine HC.out.mono ?_
  rintro e x1 ⟨rfl, b1⟩
  go_wp2
  go_ret2
  exact ⟨rfl, b1⟩
theorem liR_ba : baB liR = true := by decide
theorem line_newM (w : World) : RyS (w.alloc (.cells #[.int .i64 (-1), .int .i64 (-1), .int .i64 1, .int .i64 0, .int .i64 1, .int .i64 1, .int .i64 1, .int .i64 0, .int .i64 1] 26)) w.heap.size (.slice (some ⟨w.heap.size, 0, none⟩) 3 3) liR :=
  World.ownsRow_lit w #[.int .i64 (-1), .int .i64 (-1), .int .i64 1, .int .i64 0, .int .i64 1, .int .i64 1, .int .i64 1, .int .i64 0, .int .i64 1] 3 (Nat.le_refl _) (by decide) rfl
theorem lineStar_any (w : World) : Calls Try.prog 72 #[] w fun e w' => ∃ r, e = .returned r ∧ RyS w' w.heap.size r liR ∧ Below w.heap.size w w' := by
  have hN := line_newM w
  have hb : Below w.heap.size w (w.alloc (.cells #[.int .i64 (-1), .int .i64 (-1), .int .i64 1, .int .i64 0, .int .i64 1, .int .i64 1, .int .i64 1, .int .i64 0, .int .i64 1] 26)) := (Below.refl _ _).alloc (Nat.le_refl _) _
  go_enter Try.func72, Try.ntmps72
  go_wp2
  go_ret
  exact ⟨_, rfl, hN, hb⟩
theorem twS_li (a : List Tm) : twS a liR = baB a := by unfold twS; rw [liR_ba]; cases baB a <;> rfl
theorem implStarDegree_any (w : World) (B : Nat) (v : Value) (a : List Tm) (h : RyS w B v a) : Calls Try.prog 37 #[v] w fun e w' => GivesIbM (okI (baB a) (meD a)) (baB a) w e w' := by
  have H := Lib.hid h
  obtain ⟨A1, c1, rfl, -, -⟩ := RyS.parts h
  clear h
  go_enter Try.func37, Try.ntmps37
  go_wp2_with fail
  refine (lineStar_any _).mono ?_
  rintro e x1 ⟨r, rfl, hr, b1⟩
  obtain ⟨A2, c2, rfl, -, -⟩ := RyS.parts hr
  go_wp2_with fail
  refine (implMeetCount_any _ B w.heap.size _ _ a liR (FS.below H.out b1) hr).mono ?_
  rintro e x2 ⟨rfl, b2⟩
  rw [twS_li]
  have bb := bel2 b1 b2
  clear hr b1 b2
  go_wp2
  go_ret2
  exact ⟨rfl, bb⟩
set_option maxHeartbeats 1000000 in
set_option maxRecDepth 100000 in
theorem implBezoutOf_any (w : World) (B1 B2 : Nat) (v1 v2 : Value) (a b : List Tm) (h1 : RyS w B1 v1 a) (h2 : RyS w B2 v2 b) : Calls Try.prog 39 #[v1, v2] w fun e w' => GivesIbM (okI (twS a b) (meD a * meD b)) (twS a b) w e w' := by
  have H1 := Lib.hid h1
  have H2 := Lib.hid h2
  obtain ⟨A1, c1, rfl, -, -⟩ := RyS.parts h1
  obtain ⟨A2, c2, rfl, -, -⟩ := RyS.parts h2
  clear h1 h2
  cases g1 : baB a
  · have G1 := Lib.hid g1
    clear g1
    go_enter Try.func39, Try.ntmps39
    go_wp2_with fail
    refine (implStarDegree_any _ B1 _ a H1.out).mono ?_
    rintro e x1 ⟨rfl, b1⟩
    rw [G1.out]
    go_wp2_with fail
    refine (implStarDegree_any _ B2 _ b (FS.below H2.out b1)).mono ?_
    rintro e x2 ⟨rfl, b2⟩
    have bb := bel2 b1 b2
    go_wp2
    go_ret2
    exact givesIbM_of (okI_no (twS_no1 G1.out)) (twS_no1 G1.out) bb
  · have G1 := Lib.hid g1
    clear g1
    cases g2 : baB b
    · have G2 := Lib.hid g2
      clear g2
      go_enter Try.func39, Try.ntmps39
      go_wp2_with fail
      refine (implStarDegree_any _ B1 _ a H1.out).mono ?_
      rintro e x1 ⟨rfl, b1⟩
      rw [G1.out]
      go_wp2_with fail
      refine (implStarDegree_any _ B2 _ b (FS.below H2.out b1)).mono ?_
      rintro e x2 ⟨rfl, b2⟩
      rw [G2.out]
      have bb := bel2 b1 b2
      go_wp2
      go_ret2
      exact givesIbM_of (okI_no (twS_no2 G2.out)) (twS_no2 G2.out) bb
    · have G2 := Lib.hid g2
      clear g2
      have q0 := mul_deg (meD_bd (baB_ry G1.out)) (meD_bd (baB_ry G2.out))
      have q1 : IntKind.i64.wrap (meD a * meD b) = meD a * meD b := IntWalk.i64_in _ (by omega)
      clear q0
      go_enter Try.func39, Try.ntmps39
      go_wp2_with fail
      refine (implStarDegree_any _ B1 _ a H1.out).mono ?_
      rintro e x1 ⟨rfl, b1⟩
      rw [G1.out, okI_yes rfl]
      go_wp2_with fail
      refine (implStarDegree_any _ B2 _ b (FS.below H2.out b1)).mono ?_
      rintro e x2 ⟨rfl, b2⟩
      rw [G2.out, okI_yes rfl]
      have bb := bel2 b1 b2
      go_wp2
      go_ret2
      exact givesIbM_of (okI_yes (twS_yes G1.out G2.out)) (twS_yes G1.out G2.out) bb
set_option maxHeartbeats 1000000 in
set_option maxRecDepth 100000 in
theorem implMeetDefect_any (w : World) (B1 B2 : Nat) (v1 v2 : Value) (a b : List Tm) (h1 : RyS w B1 v1 a) (h2 : RyS w B2 v2 b) : Calls Try.prog 41 #[v1, v2] w fun e w' => GivesIbM (okI (twS a b) (meD a * meD b - meC a b)) (twS a b) w e w' := by
  have H1 := Lib.hid h1
  have H2 := Lib.hid h2
  obtain ⟨A1, c1, rfl, -, -⟩ := RyS.parts h1
  obtain ⟨A2, c2, rfl, -, -⟩ := RyS.parts h2
  clear h1 h2
  cases g1 : twS a b
  · have G1 := Lib.hid g1
    clear g1
    go_enter Try.func41, Try.ntmps41
    go_wp2_with fail
    refine (implBezoutOf_any _ B1 B2 _ _ a b H1.out H2.out).mono ?_
    rintro e x1 ⟨rfl, b1⟩
    rw [G1.out]
    go_wp2
    go_ret2
    exact givesIbM_of (okI_no rfl) rfl b1
  · have G1 := Lib.hid g1
    have hab : baB a = true ∧ baB b = true := by unfold twS at g1; simpa using g1
    have q0 := mul_deg (meD_bd (baB_ry hab.1)) (meD_bd (baB_ry hab.2))
    have q3 := meC_bd (baB_ry hab.1) (baB_ry hab.2)
    have q2 : IntKind.i64.wrap (meD a * meD b - meC a b) = meD a * meD b - meC a b := IntWalk.i64_in _ (by omega)
    clear q0 q3 g1 hab
    go_enter Try.func41, Try.ntmps41
    go_wp2_with fail
    refine (implBezoutOf_any _ B1 B2 _ _ a b H1.out H2.out).mono ?_
    rintro e x1 ⟨rfl, b1⟩
    rw [G1.out, okI_yes rfl]
    go_wp2_with fail
    refine (implMeetCount_any _ B1 B2 _ _ a b (FS.below H1.out b1) (FS.below H2.out b1)).mono ?_
    rintro e x2 ⟨rfl, b2⟩
    rw [G1.out, okI_yes rfl]
    have bb := bel2 b1 b2
    go_wp2
    go_ret2
    exact givesIbM_of (okI_yes rfl) rfl bb
end Go.Proofs.Ytijmnbgmpakllaa
