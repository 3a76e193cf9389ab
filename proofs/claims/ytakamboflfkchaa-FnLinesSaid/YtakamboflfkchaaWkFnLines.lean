/-
  For all drawn lines and points, lines go through their centers and both of their points, and points on a line have two terms.
  No condition: every two slices of bytes.
-/
import Derived.Test.YtakamboflfkchaaRows
import Derived.WalkKit
import Derived.ProofKit
import Derived.OpenShut
import Derived.ShutString
import Derived.Below
import Derived.Carry
import Derived.Lib.SmallJoins
import Derived.SizedLaws
import Derived.Test.YtakamboflfkchaaLnQ
import Derived.Test.YtakamboflfkchaaDrawM
import Derived.Deep.DeepCutAuto
namespace Go.Proofs.Ytakamboflfkchaa.fnLines
set_option linter.unusedSimpArgs false
set_option linter.unusedVariables false
open Go.ChangeShapes Go.WideShapes Go.ChangeAt Go.RowKit
open Go.ChangeMaps (open_string shut_string)
set_option linter.unusedVariables false
set_option maxRecDepth 100000
set_option maxHeartbeats 8000000 in

theorem walk (a0 : Option Addr) (len0 cap0 : Nat) (z0 : List Int) (a1 : Option Addr) (len1 cap1 : Nat) (z1 : List Int) (w : World) (w0 : IsRow .u8 w a0 len0 cap0 z0) (rr0 : len0 ≤ 140737488355328) (w1 : IsRow .u8 w a1 len1 cap1 z1) (rr1 : len1 ≤ 140737488355328) :
    Calls Try.prog 3 #[.slice a0 len0 cap0, .slice a1 len1 cap1] w fun e w' => e = .returned (.bool true) ∧ Below w.heap.size w w' := by
  have hl0 : len0 ≤ 9223372036854775807 := by
    rcases w0 with ⟨_, h, _⟩ | ⟨x, _, h1, h2, _⟩
    · omega
    · unfold maxLen at h2; omega
  have hl1 : len1 ≤ 9223372036854775807 := by
    rcases w1 with ⟨_, h, _⟩ | ⟨x, _, h1, h2, _⟩
    · omega
    · unfold maxLen at h2; omega
  have hR := Lib.hid (RB.of_row w0)
  have hR' := Lib.hid (RB.of_row w1)
  clear w0 w1
  by_cases hbig : 1048576 < len0 + len1
  · have hbig' : (1048576 : Int) < (len0 : Int) + len1 := by omega
    go_enter Try.func3, Try.ntmps3
    go_wp2
    go_ret
    exact ⟨rfl, Below.refl _ _⟩
  · have hb0 : len0 ≤ 1048576 := by omega
    have hb1 : len1 ≤ 1048576 := by omega
    have hbig' : ¬ (1048576 : Int) < (len0 : Int) + len1 := by omega
    have Hb0 := Lib.hid hb0
    have Hb1 := Lib.hid hb1
  
    go_enter Try.func3, Try.ntmps3
    go_wp2_with fail
    refine (drawTermsOn_any _ _ _ _ hR.out Hb0.out).mono ?_
    rintro e W1 ⟨t, x, y, rfl, ht, b0⟩
    have BB2 := Lib.hid (b0)
    have fR_2 := Lib.hid (hR'.out.below b0)
    clear hR'
    have HT := Lib.hid ht
    clear ht b0
    have fx3 := Lib.hid (T3.new W1 t 24)
    have bx3 : Below W1.heap.size W1 (W1.alloc (.cells #[.int .i64 (t).1, .int .i64 (t).2.1, .int .i64 (t).2.2] 24)) := (gr1 _ _).below
    have BB4 := Lib.hid (bel2 BB2.out bx3)
    have fR_4 := Lib.hid (fR_2.out.below bx3)
    clear fR_2
    clear BB2
    obtain ⟨zs, hzs⟩ : ∃ z, z = lnTR t x y := ⟨_, rfl⟩
    obtain ⟨ok, hok⟩ : ∃ z, z = lnA t x y := ⟨_, rfl⟩
    obtain ⟨on, hon⟩ : ∃ z, z = lnOR t x y := ⟨_, rfl⟩
    obtain ⟨ca, hca⟩ : ∃ z, z = ceX t := ⟨_, rfl⟩
    obtain ⟨cb, hcb⟩ : ∃ z, z = ceY t := ⟨_, rfl⟩
    obtain ⟨cc, hcc⟩ : ∃ z, z = ceB t := ⟨_, rfl⟩
    have HON := Lib.hid (show on = decide (1 < zs.length) by rw [hon, hzs]; exact on_len t x y)
    have HCE := Lib.hid (show cc = true → lnA t ca cb = true ∧ (lnTR t ca cb).length = 3 by rw [hcc, hca, hcb]; exact center_all)
    have C1 := Lib.hid (fun W => show Calls Try.prog 5 #[tmV t, .int .i64 x, .int .i64 y] W fun e w' => GivesIB ok zs W e w' by rw [hok, hzs]; exact implTermsOn_any t x y HT.out W)
    have C2 := Lib.hid (fun W => show Calls Try.prog 6 #[tmV t, .int .i64 x, .int .i64 y] W fun e w' => GivesIB ok zs W e w' by rw [hok, hzs]; exact specTermsOn_any t x y W)
    have C3 := Lib.hid (fun W => show Calls Try.prog 7 #[tmV t, .int .i64 x, .int .i64 y] W fun e w' => SaysBB on ok W e w' by rw [hok, hon]; exact implIsOnLine_any t x y HT.out W)
    have C4 := Lib.hid (fun W => show Calls Try.prog 8 #[tmV t, .int .i64 x, .int .i64 y] W fun e w' => SaysBB on ok W e w' by rw [hok, hon]; exact specIsOnLine_any t x y W)
    have C5 := Lib.hid (fun W => show Calls Try.prog 9 #[tmV t] W fun e w' => e = .returned (.tuple #[.int .i64 ca, .int .i64 cb, .bool cc]) ∧ Gr W w' by rw [hca, hcb, hcc]; exact implCenterOf_any t HT.out W)
    have C6 := Lib.hid (fun W => show Calls Try.prog 10 #[tmV t] W fun e w' => e = .returned (.tuple #[.int .i64 ca, .int .i64 cb, .bool cc]) ∧ Gr W w' by rw [hca, hcb, hcc]; exact specCenterOf_any t W)
    have C7 := Lib.hid (fun W => implTermsOn_any t ca cb HT.out W)
    clear hzs hok hon hca hcb hcc
    obtain ⟨pa, pb, pc⟩ := t
    have yp := fx3.out
    obtain ⟨p0, p1, p2⟩ := yp
    have pl := cell_lt p0
    go_wp2_with fail
    refine (C1.out _).mono ?_
    rintro e W5 ⟨r1, rfl, h1, b⟩
    clear p0 p1 p2 pl
    have BB6 := Lib.hid (bel2 BB4.out b)
    have fR_6 := Lib.hid (fR_4.out.below b)
    clear fR_4
    have fp_6 := Lib.hid (fx3.out.below b)
    clear fx3
    clear BB4
    have k1 := Lib.hid (h1)
    clear h1 b
    have yp := fp_6.out
    obtain ⟨p0, p1, p2⟩ := yp
    have pl := cell_lt p0
    go_wp2_with fail
    refine (C2.out _).mono ?_
    rintro e W7 ⟨r2, rfl, h2, b⟩
    clear p0 p1 p2 pl
    have BB8 := Lib.hid (bel2 BB6.out b)
    have fR_8 := Lib.hid (fR_6.out.below b)
    clear fR_6
    have fk1_8 := Lib.hid (k1.out.below b)
    clear k1
    have fp_8 := Lib.hid (fp_6.out.below b)
    clear fp_6
    clear BB6
    have k2 := Lib.hid (h2)
    clear h2 b
    have yp := fp_8.out
    obtain ⟨p0, p1, p2⟩ := yp
    have pl := cell_lt p0
    go_wp2_with fail
    refine (C3.out _).mono ?_
    rintro e W9 ⟨rfl, b⟩
    clear p0 p1 p2 pl
    have BB10 := Lib.hid (bel2 BB8.out b)
    have fR_10 := Lib.hid (fR_8.out.below b)
    clear fR_8
    have fk1_10 := Lib.hid (fk1_8.out.below b)
    clear fk1_8
    have fk2_10 := Lib.hid (k2.out.below b)
    clear k2
    have fp_10 := Lib.hid (fp_8.out.below b)
    clear fp_8
    clear BB8
    clear b
    have yp := fp_10.out
    obtain ⟨p0, p1, p2⟩ := yp
    have pl := cell_lt p0
    go_wp2_with fail
    refine (C4.out _).mono ?_
    rintro e W11 ⟨rfl, b⟩
    clear p0 p1 p2 pl
    have BB12 := Lib.hid (bel2 BB10.out b)
    have fR_12 := Lib.hid (fR_10.out.below b)
    clear fR_10
    have fk1_12 := Lib.hid (fk1_10.out.below b)
    clear fk1_10
    have fk2_12 := Lib.hid (fk2_10.out.below b)
    clear fk2_10
    have fp_12 := Lib.hid (fp_10.out.below b)
    clear fp_10
    clear BB10
    clear b
    have yp := fp_12.out
    obtain ⟨p0, p1, p2⟩ := yp
    have pl := cell_lt p0
    go_wp2_with fail
    refine (C5.out _).mono ?_
    rintro e W13 ⟨rfl, g⟩
    clear p0 p1 p2 pl
    have BB14 := Lib.hid (bel2 BB12.out g.below)
    have fR_14 := Lib.hid (fR_12.out.below g.below)
    clear fR_12
    have fk1_14 := Lib.hid (fk1_12.out.below g.below)
    clear fk1_12
    have fk2_14 := Lib.hid (fk2_12.out.below g.below)
    clear fk2_12
    have fp_14 := Lib.hid (fp_12.out.below g.below)
    clear fp_12
    clear BB12
    clear g
    have yp := fp_14.out
    obtain ⟨p0, p1, p2⟩ := yp
    have pl := cell_lt p0
    go_wp2_with fail
    refine (C6.out _).mono ?_
    rintro e W15 ⟨rfl, g⟩
    clear p0 p1 p2 pl
    have BB16 := Lib.hid (bel2 BB14.out g.below)
    have fR_16 := Lib.hid (fR_14.out.below g.below)
    clear fR_14
    have fk1_16 := Lib.hid (fk1_14.out.below g.below)
    clear fk1_14
    have fk2_16 := Lib.hid (fk2_14.out.below g.below)
    clear fk2_14
    have fp_16 := Lib.hid (fp_14.out.below g.below)
    clear fp_14
    clear BB14
    clear g
    obtain ⟨A1, cap1, e1, -, -⟩ := fk1_16.out.parts
    obtain ⟨A2, cap2, e2, -, -⟩ := fk2_16.out.parts
    subst e1
    subst e2
    have yp := fp_16.out
    obtain ⟨p0, p1, p2⟩ := yp
    have pl := cell_lt p0
    go_wp2_with fail
    refine (qInts_same _ _ _ _ _ _ fk1_16.out fk2_16.out).mono ?_
    rintro e W17 ⟨rfl, n, hn⟩
    clear p0 p1 p2 pl
    have b : Below W15.heap.size W15 W17 := by rw [hn]; exact belN (Below.refl _ _) n
    clear hn
    have BB18 := Lib.hid (bel2 BB16.out b)
    have fR_18 := Lib.hid (fR_16.out.below b)
    clear fR_16
    have fk1_18 := Lib.hid (fk1_16.out.below b)
    clear fk1_16
    have fk2_18 := Lib.hid (fk2_16.out.below b)
    clear fk2_16
    have fp_18 := Lib.hid (fp_16.out.below b)
    clear fp_16
    clear BB16
    clear b
    have hgt : (decide ((1 : Int) < (zs.length : Int))) = on := by rw [HON.out]; rw [Bool.eq_iff_iff]; simp only [decide_eq_true_eq]; omega
    cases cc
    · clear C1 C2 C3 C4 C5 C6 C7 HCE
      have yp := fp_18.out
      obtain ⟨p0, p1, p2⟩ := yp
      have pl := cell_lt p0
      go_wp2_with fail
      refine (drawLineThrough_any _ _ _ _ fR_18.out Hb1.out).mono ?_
      rintro e W19 ⟨p, q, r, s, rfl, b⟩
      clear p0 p1 p2 pl
      have BB20 := Lib.hid (bel2 BB18.out b)
      have fR_20 := Lib.hid (fR_18.out.below b)
      clear fR_18
      have fp_20 := Lib.hid (fp_18.out.below b)
      clear fp_18
      clear BB18
      clear b
      obtain ⟨m, hm⟩ : ∃ z, z = thR p q r s := ⟨_, rfl⟩
      obtain ⟨five, h5⟩ : ∃ z, z = thB p q r s := ⟨_, rfl⟩
      have HTH := Lib.hid (show five = true → lnB m = true ∧ lnA m p q = true ∧ lnOR m p q = true ∧ lnA m r s = true ∧ lnOR m r s = true by rw [h5, hm]; exact through_both)
      have HMW := Lib.hid (show wfT m by rw [hm]; exact thR_wf p q r s)
      have E1 := Lib.hid (fun W => show Calls Try.prog 13 #[.int .i64 p, .int .i64 q, .int .i64 r, .int .i64 s] W fun e w' => GivesL m five W e w' by rw [hm, h5]; exact implLineThrough_any p q r s W)
      have E2 := Lib.hid (fun W => show Calls Try.prog 14 #[.int .i64 p, .int .i64 q, .int .i64 r, .int .i64 s] W fun e w' => GivesL m five W e w' by rw [hm, h5]; exact specLineThrough_any p q r s W)
      have E3 := Lib.hid (fun W => implIsOnLine_any m p q HMW.out W)
      have E4 := Lib.hid (fun W => implIsOnLine_any m r s HMW.out W)
      have E5 := Lib.hid (fun W => implIsLine_any m HMW.out W)
      clear hm h5
      obtain ⟨ma, mb, mc⟩ := m
      go_wp2_with fail
      refine (E1.out _).mono ?_
      rintro e W21 ⟨rfl, g⟩
      have BB22 := Lib.hid (bel2 BB20.out g.below)
      have fR_22 := Lib.hid (fR_20.out.below g.below)
      clear fR_20
      clear BB20
      clear g
      have fx23 := Lib.hid (T3.new W21 ((ma, mb, mc) : Tm) 24)
      have bx23 : Below W21.heap.size W21 (W21.alloc (.cells #[.int .i64 (((ma, mb, mc) : Tm)).1, .int .i64 (((ma, mb, mc) : Tm)).2.1, .int .i64 (((ma, mb, mc) : Tm)).2.2] 24)) := (gr1 _ _).below
      have BB24 := Lib.hid (bel2 BB22.out bx23)
      have fR_24 := Lib.hid (fR_22.out.below bx23)
      clear fR_22
      clear BB22
      have ym := fx23.out
      obtain ⟨m0, m1, m2⟩ := ym
      have ml := cell_lt m0
      go_wp2_with fail
      refine (E2.out _).mono ?_
      rintro e W25 ⟨rfl, g⟩
      clear m0 m1 m2 ml
      have BB26 := Lib.hid (bel2 BB24.out g.below)
      have fR_26 := Lib.hid (fR_24.out.below g.below)
      clear fR_24
      have fm_26 := Lib.hid (fx23.out.below g.below)
      clear fx23
      clear BB24
      clear g
      have fx27 := Lib.hid (T3.new W25 ((ma, mb, mc) : Tm) 24)
      have bx27 : Below W25.heap.size W25 (W25.alloc (.cells #[.int .i64 (((ma, mb, mc) : Tm)).1, .int .i64 (((ma, mb, mc) : Tm)).2.1, .int .i64 (((ma, mb, mc) : Tm)).2.2] 24)) := (gr1 _ _).below
      have BB28 := Lib.hid (bel2 BB26.out bx27)
      have fR_28 := Lib.hid (fR_26.out.below bx27)
      clear fR_26
      have fm_28 := Lib.hid (fm_26.out.below bx27)
      clear fm_26
      clear BB26
      cases five
      · clear HTH E1 E2 E3 E4 E5
        have ym := fm_28.out
        obtain ⟨m0, m1, m2⟩ := ym
        have ml := cell_lt m0
        have yn := fx27.out
        obtain ⟨n0, n1, n2⟩ := yn
        have nl := cell_lt n0
        go_wp2_with fail
        refine (drawLinesAt_any _ _ _ _ fR_28.out Hb1.out).mono ?_
        rintro e W29 ⟨v, l, xx, yy, rfl, hl, hlw, hl13, b⟩
        clear m0 m1 m2 ml
        clear n0 n1 n2 nl
        have BB30 := Lib.hid (bel2 BB28.out b)
        have fR_30 := Lib.hid (fR_28.out.below b)
        clear fR_28
        have fm_30 := Lib.hid (fm_28.out.below b)
        clear fm_28
        have fn_30 := Lib.hid (fx27.out.below b)
        clear fx27
        clear BB28
        have kl := Lib.hid hl
        have HLW := Lib.hid hlw
        clear hl hlw b
        obtain ⟨ls, hls⟩ : ∃ z, z = laR l xx yy := ⟨_, rfl⟩
        obtain ⟨lo, hlo⟩ : ∃ z, z = laB l xx yy := ⟨_, rfl⟩
        have D1 := Lib.hid (fun W B (h : LnS W B v l) => show Calls Try.prog 17 #[v, .int .i64 xx, .int .i64 yy] W fun e w' => GivesIB lo ls W e w' by rw [hlo, hls]; exact implLinesAt_any W B v l xx yy HLW.out h)
        have D2 := Lib.hid (fun W B (h : LnS W B v l) => show Calls Try.prog 18 #[v, .int .i64 xx, .int .i64 yy] W fun e w' => GivesIB lo ls W e w' by rw [hlo, hls]; exact specLinesAt_any W B v l xx yy h)
        clear hls hlo
        go_wp2_with fail
        refine (D1.out _ _ kl.out).mono ?_
        rintro e W31 ⟨r3, rfl, h3, b⟩
        have BB32 := Lib.hid (bel2 BB30.out b)
        have fR_32 := Lib.hid (fR_30.out.below b)
        clear fR_30
        have fkl_32 := Lib.hid (kl.out.below b)
        clear kl
        clear BB30
        have k3 := Lib.hid (h3)
        clear h3 b
        go_wp2_with fail
        refine (D2.out _ _ fkl_32.out).mono ?_
        rintro e W33 ⟨r4, rfl, h4, b⟩
        have BB34 := Lib.hid (bel2 BB32.out b)
        have fR_34 := Lib.hid (fR_32.out.below b)
        clear fR_32
        have fkl_34 := Lib.hid (fkl_32.out.below b)
        clear fkl_32
        have fk3_34 := Lib.hid (k3.out.below b)
        clear k3
        clear BB32
        have k4 := Lib.hid (h4)
        clear h4 b
        go_wp2_with fail
        refine (qInts_same _ _ _ _ _ _ fk3_34.out k4.out).mono ?_
        rintro e W35 ⟨rfl, n, hn⟩
        have b : Below W33.heap.size W33 W35 := by rw [hn]; exact belN (Below.refl _ _) n
        clear hn
        have BB36 := Lib.hid (bel2 BB34.out b)
        have fR_36 := Lib.hid (fR_34.out.below b)
        clear fR_34
        have fkl_36 := Lib.hid (fkl_34.out.below b)
        clear fkl_34
        have fk3_36 := Lib.hid (fk3_34.out.below b)
        clear fk3_34
        have fk4_36 := Lib.hid (k4.out.below b)
        clear k4
        clear BB34
        clear b
        go_wp2
        go_ret
        exact ⟨rfl, BB36.out⟩
      · obtain ⟨t1, t2, t3, t4, t5⟩ := HTH.out rfl
        rw [t2, t3] at E3
        rw [t4, t5] at E4
        rw [t1] at E5
        clear HTH t1 t2 t3 t4 t5 E1 E2
        have ym := fm_28.out
        obtain ⟨m0, m1, m2⟩ := ym
        have ml := cell_lt m0
        have yn := fx27.out
        obtain ⟨n0, n1, n2⟩ := yn
        have nl := cell_lt n0
        go_wp2_with fail
        refine (E3.out _).mono ?_
        rintro e W29 ⟨rfl, b⟩
        clear m0 m1 m2 ml
        clear n0 n1 n2 nl
        have BB30 := Lib.hid (bel2 BB28.out b)
        have fR_30 := Lib.hid (fR_28.out.below b)
        clear fR_28
        have fm_30 := Lib.hid (fm_28.out.below b)
        clear fm_28
        have fn_30 := Lib.hid (fx27.out.below b)
        clear fx27
        clear BB28
        clear b
        have ym := fm_30.out
        obtain ⟨m0, m1, m2⟩ := ym
        have ml := cell_lt m0
        have yn := fn_30.out
        obtain ⟨n0, n1, n2⟩ := yn
        have nl := cell_lt n0
        go_wp2_with fail
        refine (E4.out _).mono ?_
        rintro e W31 ⟨rfl, b⟩
        clear m0 m1 m2 ml
        clear n0 n1 n2 nl
        have BB32 := Lib.hid (bel2 BB30.out b)
        have fR_32 := Lib.hid (fR_30.out.below b)
        clear fR_30
        have fm_32 := Lib.hid (fm_30.out.below b)
        clear fm_30
        have fn_32 := Lib.hid (fn_30.out.below b)
        clear fn_30
        clear BB30
        clear b
        have ym := fm_32.out
        obtain ⟨m0, m1, m2⟩ := ym
        have ml := cell_lt m0
        have yn := fn_32.out
        obtain ⟨n0, n1, n2⟩ := yn
        have nl := cell_lt n0
        go_wp2_with fail
        refine (E5.out _).mono ?_
        rintro e W33 ⟨rfl, g⟩
        clear m0 m1 m2 ml
        clear n0 n1 n2 nl
        have BB34 := Lib.hid (bel2 BB32.out g.below)
        have fR_34 := Lib.hid (fR_32.out.below g.below)
        clear fR_32
        have fm_34 := Lib.hid (fm_32.out.below g.below)
        clear fm_32
        have fn_34 := Lib.hid (fn_32.out.below g.below)
        clear fn_32
        clear BB32
        clear g
        have ym := fm_34.out
        obtain ⟨m0, m1, m2⟩ := ym
        have ml := cell_lt m0
        have yn := fn_34.out
        obtain ⟨n0, n1, n2⟩ := yn
        have nl := cell_lt n0
        go_wp2_with fail
        refine (drawLinesAt_any _ _ _ _ fR_34.out Hb1.out).mono ?_
        rintro e W35 ⟨v, l, xx, yy, rfl, hl, hlw, hl13, b⟩
        clear m0 m1 m2 ml
        clear n0 n1 n2 nl
        have BB36 := Lib.hid (bel2 BB34.out b)
        have fR_36 := Lib.hid (fR_34.out.below b)
        clear fR_34
        have fm_36 := Lib.hid (fm_34.out.below b)
        clear fm_34
        have fn_36 := Lib.hid (fn_34.out.below b)
        clear fn_34
        clear BB34
        have kl := Lib.hid hl
        have HLW := Lib.hid hlw
        clear hl hlw b
        obtain ⟨ls, hls⟩ : ∃ z, z = laR l xx yy := ⟨_, rfl⟩
        obtain ⟨lo, hlo⟩ : ∃ z, z = laB l xx yy := ⟨_, rfl⟩
        have D1 := Lib.hid (fun W B (h : LnS W B v l) => show Calls Try.prog 17 #[v, .int .i64 xx, .int .i64 yy] W fun e w' => GivesIB lo ls W e w' by rw [hlo, hls]; exact implLinesAt_any W B v l xx yy HLW.out h)
        have D2 := Lib.hid (fun W B (h : LnS W B v l) => show Calls Try.prog 18 #[v, .int .i64 xx, .int .i64 yy] W fun e w' => GivesIB lo ls W e w' by rw [hlo, hls]; exact specLinesAt_any W B v l xx yy h)
        clear hls hlo
        go_wp2_with fail
        refine (D1.out _ _ kl.out).mono ?_
        rintro e W37 ⟨r3, rfl, h3, b⟩
        have BB38 := Lib.hid (bel2 BB36.out b)
        have fR_38 := Lib.hid (fR_36.out.below b)
        clear fR_36
        have fkl_38 := Lib.hid (kl.out.below b)
        clear kl
        clear BB36
        have k3 := Lib.hid (h3)
        clear h3 b
        go_wp2_with fail
        refine (D2.out _ _ fkl_38.out).mono ?_
        rintro e W39 ⟨r4, rfl, h4, b⟩
        have BB40 := Lib.hid (bel2 BB38.out b)
        have fR_40 := Lib.hid (fR_38.out.below b)
        clear fR_38
        have fkl_40 := Lib.hid (fkl_38.out.below b)
        clear fkl_38
        have fk3_40 := Lib.hid (k3.out.below b)
        clear k3
        clear BB38
        have k4 := Lib.hid (h4)
        clear h4 b
        go_wp2_with fail
        refine (qInts_same _ _ _ _ _ _ fk3_40.out k4.out).mono ?_
        rintro e W41 ⟨rfl, n, hn⟩
        have b : Below W39.heap.size W39 W41 := by rw [hn]; exact belN (Below.refl _ _) n
        clear hn
        have BB42 := Lib.hid (bel2 BB40.out b)
        have fR_42 := Lib.hid (fR_40.out.below b)
        clear fR_40
        have fkl_42 := Lib.hid (fkl_40.out.below b)
        clear fkl_40
        have fk3_42 := Lib.hid (fk3_40.out.below b)
        clear fk3_40
        have fk4_42 := Lib.hid (k4.out.below b)
        clear k4
        clear BB40
        clear b
        go_wp2
        go_ret
        exact ⟨rfl, BB42.out⟩
    · obtain ⟨t1, t2⟩ := HCE.out rfl
      rw [t1] at C7
      have HL3 := Lib.hid t2
      clear C1 C2 C3 C4 C5 C6 HCE t1 t2
      have yp := fp_18.out
      obtain ⟨p0, p1, p2⟩ := yp
      have pl := cell_lt p0
      go_wp2_with fail
      refine (C7.out _).mono ?_
      rintro e W19 ⟨r7, rfl, h7, b⟩
      clear p0 p1 p2 pl
      have BB20 := Lib.hid (bel2 BB18.out b)
      have fR_20 := Lib.hid (fR_18.out.below b)
      clear fR_18
      have fk1_20 := Lib.hid (fk1_18.out.below b)
      clear fk1_18
      have fk2_20 := Lib.hid (fk2_18.out.below b)
      clear fk2_18
      have fp_20 := Lib.hid (fp_18.out.below b)
      clear fp_18
      clear BB18
      obtain ⟨A7, cap7, e7, -, -⟩ := h7.parts
      rw [HL3.out] at e7
      subst e7
      clear h7 b C7
      have yp := fp_20.out
      obtain ⟨p0, p1, p2⟩ := yp
      have pl := cell_lt p0
      go_wp2_with fail
      refine (drawLineThrough_any _ _ _ _ fR_20.out Hb1.out).mono ?_
      rintro e W21 ⟨p, q, r, s, rfl, b⟩
      clear p0 p1 p2 pl
      have BB22 := Lib.hid (bel2 BB20.out b)
      have fR_22 := Lib.hid (fR_20.out.below b)
      clear fR_20
      have fp_22 := Lib.hid (fp_20.out.below b)
      clear fp_20
      clear BB20
      clear b
      obtain ⟨m, hm⟩ : ∃ z, z = thR p q r s := ⟨_, rfl⟩
      obtain ⟨five, h5⟩ : ∃ z, z = thB p q r s := ⟨_, rfl⟩
      have HTH := Lib.hid (show five = true → lnB m = true ∧ lnA m p q = true ∧ lnOR m p q = true ∧ lnA m r s = true ∧ lnOR m r s = true by rw [h5, hm]; exact through_both)
      have HMW := Lib.hid (show wfT m by rw [hm]; exact thR_wf p q r s)
      have E1 := Lib.hid (fun W => show Calls Try.prog 13 #[.int .i64 p, .int .i64 q, .int .i64 r, .int .i64 s] W fun e w' => GivesL m five W e w' by rw [hm, h5]; exact implLineThrough_any p q r s W)
      have E2 := Lib.hid (fun W => show Calls Try.prog 14 #[.int .i64 p, .int .i64 q, .int .i64 r, .int .i64 s] W fun e w' => GivesL m five W e w' by rw [hm, h5]; exact specLineThrough_any p q r s W)
      have E3 := Lib.hid (fun W => implIsOnLine_any m p q HMW.out W)
      have E4 := Lib.hid (fun W => implIsOnLine_any m r s HMW.out W)
      have E5 := Lib.hid (fun W => implIsLine_any m HMW.out W)
      clear hm h5
      obtain ⟨ma, mb, mc⟩ := m
      go_wp2_with fail
      refine (E1.out _).mono ?_
      rintro e W23 ⟨rfl, g⟩
      have BB24 := Lib.hid (bel2 BB22.out g.below)
      have fR_24 := Lib.hid (fR_22.out.below g.below)
      clear fR_22
      clear BB22
      clear g
      have fx25 := Lib.hid (T3.new W23 ((ma, mb, mc) : Tm) 24)
      have bx25 : Below W23.heap.size W23 (W23.alloc (.cells #[.int .i64 (((ma, mb, mc) : Tm)).1, .int .i64 (((ma, mb, mc) : Tm)).2.1, .int .i64 (((ma, mb, mc) : Tm)).2.2] 24)) := (gr1 _ _).below
      have BB26 := Lib.hid (bel2 BB24.out bx25)
      have fR_26 := Lib.hid (fR_24.out.below bx25)
      clear fR_24
      clear BB24
      have ym := fx25.out
      obtain ⟨m0, m1, m2⟩ := ym
      have ml := cell_lt m0
      go_wp2_with fail
      refine (E2.out _).mono ?_
      rintro e W27 ⟨rfl, g⟩
      clear m0 m1 m2 ml
      have BB28 := Lib.hid (bel2 BB26.out g.below)
      have fR_28 := Lib.hid (fR_26.out.below g.below)
      clear fR_26
      have fm_28 := Lib.hid (fx25.out.below g.below)
      clear fx25
      clear BB26
      clear g
      have fx29 := Lib.hid (T3.new W27 ((ma, mb, mc) : Tm) 24)
      have bx29 : Below W27.heap.size W27 (W27.alloc (.cells #[.int .i64 (((ma, mb, mc) : Tm)).1, .int .i64 (((ma, mb, mc) : Tm)).2.1, .int .i64 (((ma, mb, mc) : Tm)).2.2] 24)) := (gr1 _ _).below
      have BB30 := Lib.hid (bel2 BB28.out bx29)
      have fR_30 := Lib.hid (fR_28.out.below bx29)
      clear fR_28
      have fm_30 := Lib.hid (fm_28.out.below bx29)
      clear fm_28
      clear BB28
      cases five
      · clear HTH E1 E2 E3 E4 E5
        have ym := fm_30.out
        obtain ⟨m0, m1, m2⟩ := ym
        have ml := cell_lt m0
        have yn := fx29.out
        obtain ⟨n0, n1, n2⟩ := yn
        have nl := cell_lt n0
        go_wp2_with fail
        refine (drawLinesAt_any _ _ _ _ fR_30.out Hb1.out).mono ?_
        rintro e W31 ⟨v, l, xx, yy, rfl, hl, hlw, hl13, b⟩
        clear m0 m1 m2 ml
        clear n0 n1 n2 nl
        have BB32 := Lib.hid (bel2 BB30.out b)
        have fR_32 := Lib.hid (fR_30.out.below b)
        clear fR_30
        have fm_32 := Lib.hid (fm_30.out.below b)
        clear fm_30
        have fn_32 := Lib.hid (fx29.out.below b)
        clear fx29
        clear BB30
        have kl := Lib.hid hl
        have HLW := Lib.hid hlw
        clear hl hlw b
        obtain ⟨ls, hls⟩ : ∃ z, z = laR l xx yy := ⟨_, rfl⟩
        obtain ⟨lo, hlo⟩ : ∃ z, z = laB l xx yy := ⟨_, rfl⟩
        have D1 := Lib.hid (fun W B (h : LnS W B v l) => show Calls Try.prog 17 #[v, .int .i64 xx, .int .i64 yy] W fun e w' => GivesIB lo ls W e w' by rw [hlo, hls]; exact implLinesAt_any W B v l xx yy HLW.out h)
        have D2 := Lib.hid (fun W B (h : LnS W B v l) => show Calls Try.prog 18 #[v, .int .i64 xx, .int .i64 yy] W fun e w' => GivesIB lo ls W e w' by rw [hlo, hls]; exact specLinesAt_any W B v l xx yy h)
        clear hls hlo
        go_wp2_with fail
        refine (D1.out _ _ kl.out).mono ?_
        rintro e W33 ⟨r3, rfl, h3, b⟩
        have BB34 := Lib.hid (bel2 BB32.out b)
        have fR_34 := Lib.hid (fR_32.out.below b)
        clear fR_32
        have fkl_34 := Lib.hid (kl.out.below b)
        clear kl
        clear BB32
        have k3 := Lib.hid (h3)
        clear h3 b
        go_wp2_with fail
        refine (D2.out _ _ fkl_34.out).mono ?_
        rintro e W35 ⟨r4, rfl, h4, b⟩
        have BB36 := Lib.hid (bel2 BB34.out b)
        have fR_36 := Lib.hid (fR_34.out.below b)
        clear fR_34
        have fkl_36 := Lib.hid (fkl_34.out.below b)
        clear fkl_34
        have fk3_36 := Lib.hid (k3.out.below b)
        clear k3
        clear BB34
        have k4 := Lib.hid (h4)
        clear h4 b
        go_wp2_with fail
        refine (qInts_same _ _ _ _ _ _ fk3_36.out k4.out).mono ?_
        rintro e W37 ⟨rfl, n, hn⟩
        have b : Below W35.heap.size W35 W37 := by rw [hn]; exact belN (Below.refl _ _) n
        clear hn
        have BB38 := Lib.hid (bel2 BB36.out b)
        have fR_38 := Lib.hid (fR_36.out.below b)
        clear fR_36
        have fkl_38 := Lib.hid (fkl_36.out.below b)
        clear fkl_36
        have fk3_38 := Lib.hid (fk3_36.out.below b)
        clear fk3_36
        have fk4_38 := Lib.hid (k4.out.below b)
        clear k4
        clear BB36
        clear b
        go_wp2
        go_ret
        exact ⟨rfl, BB38.out⟩
      · obtain ⟨t1, t2, t3, t4, t5⟩ := HTH.out rfl
        rw [t2, t3] at E3
        rw [t4, t5] at E4
        rw [t1] at E5
        clear HTH t1 t2 t3 t4 t5 E1 E2
        have ym := fm_30.out
        obtain ⟨m0, m1, m2⟩ := ym
        have ml := cell_lt m0
        have yn := fx29.out
        obtain ⟨n0, n1, n2⟩ := yn
        have nl := cell_lt n0
        go_wp2_with fail
        refine (E3.out _).mono ?_
        rintro e W31 ⟨rfl, b⟩
        clear m0 m1 m2 ml
        clear n0 n1 n2 nl
        have BB32 := Lib.hid (bel2 BB30.out b)
        have fR_32 := Lib.hid (fR_30.out.below b)
        clear fR_30
        have fm_32 := Lib.hid (fm_30.out.below b)
        clear fm_30
        have fn_32 := Lib.hid (fx29.out.below b)
        clear fx29
        clear BB30
        clear b
        have ym := fm_32.out
        obtain ⟨m0, m1, m2⟩ := ym
        have ml := cell_lt m0
        have yn := fn_32.out
        obtain ⟨n0, n1, n2⟩ := yn
        have nl := cell_lt n0
        go_wp2_with fail
        refine (E4.out _).mono ?_
        rintro e W33 ⟨rfl, b⟩
        clear m0 m1 m2 ml
        clear n0 n1 n2 nl
        have BB34 := Lib.hid (bel2 BB32.out b)
        have fR_34 := Lib.hid (fR_32.out.below b)
        clear fR_32
        have fm_34 := Lib.hid (fm_32.out.below b)
        clear fm_32
        have fn_34 := Lib.hid (fn_32.out.below b)
        clear fn_32
        clear BB32
        clear b
        have ym := fm_34.out
        obtain ⟨m0, m1, m2⟩ := ym
        have ml := cell_lt m0
        have yn := fn_34.out
        obtain ⟨n0, n1, n2⟩ := yn
        have nl := cell_lt n0
        go_wp2_with fail
        refine (E5.out _).mono ?_
        rintro e W35 ⟨rfl, g⟩
        clear m0 m1 m2 ml
        clear n0 n1 n2 nl
        have BB36 := Lib.hid (bel2 BB34.out g.below)
        have fR_36 := Lib.hid (fR_34.out.below g.below)
        clear fR_34
        have fm_36 := Lib.hid (fm_34.out.below g.below)
        clear fm_34
        have fn_36 := Lib.hid (fn_34.out.below g.below)
        clear fn_34
        clear BB34
        clear g
        have ym := fm_36.out
        obtain ⟨m0, m1, m2⟩ := ym
        have ml := cell_lt m0
        have yn := fn_36.out
        obtain ⟨n0, n1, n2⟩ := yn
        have nl := cell_lt n0
        go_wp2_with fail
        refine (drawLinesAt_any _ _ _ _ fR_36.out Hb1.out).mono ?_
        rintro e W37 ⟨v, l, xx, yy, rfl, hl, hlw, hl13, b⟩
        clear m0 m1 m2 ml
        clear n0 n1 n2 nl
        have BB38 := Lib.hid (bel2 BB36.out b)
        have fR_38 := Lib.hid (fR_36.out.below b)
        clear fR_36
        have fm_38 := Lib.hid (fm_36.out.below b)
        clear fm_36
        have fn_38 := Lib.hid (fn_36.out.below b)
        clear fn_36
        clear BB36
        have kl := Lib.hid hl
        have HLW := Lib.hid hlw
        clear hl hlw b
        obtain ⟨ls, hls⟩ : ∃ z, z = laR l xx yy := ⟨_, rfl⟩
        obtain ⟨lo, hlo⟩ : ∃ z, z = laB l xx yy := ⟨_, rfl⟩
        have D1 := Lib.hid (fun W B (h : LnS W B v l) => show Calls Try.prog 17 #[v, .int .i64 xx, .int .i64 yy] W fun e w' => GivesIB lo ls W e w' by rw [hlo, hls]; exact implLinesAt_any W B v l xx yy HLW.out h)
        have D2 := Lib.hid (fun W B (h : LnS W B v l) => show Calls Try.prog 18 #[v, .int .i64 xx, .int .i64 yy] W fun e w' => GivesIB lo ls W e w' by rw [hlo, hls]; exact specLinesAt_any W B v l xx yy h)
        clear hls hlo
        go_wp2_with fail
        refine (D1.out _ _ kl.out).mono ?_
        rintro e W39 ⟨r3, rfl, h3, b⟩
        have BB40 := Lib.hid (bel2 BB38.out b)
        have fR_40 := Lib.hid (fR_38.out.below b)
        clear fR_38
        have fkl_40 := Lib.hid (kl.out.below b)
        clear kl
        clear BB38
        have k3 := Lib.hid (h3)
        clear h3 b
        go_wp2_with fail
        refine (D2.out _ _ fkl_40.out).mono ?_
        rintro e W41 ⟨r4, rfl, h4, b⟩
        have BB42 := Lib.hid (bel2 BB40.out b)
        have fR_42 := Lib.hid (fR_40.out.below b)
        clear fR_40
        have fkl_42 := Lib.hid (fkl_40.out.below b)
        clear fkl_40
        have fk3_42 := Lib.hid (k3.out.below b)
        clear k3
        clear BB40
        have k4 := Lib.hid (h4)
        clear h4 b
        go_wp2_with fail
        refine (qInts_same _ _ _ _ _ _ fk3_42.out k4.out).mono ?_
        rintro e W43 ⟨rfl, n, hn⟩
        have b : Below W41.heap.size W41 W43 := by rw [hn]; exact belN (Below.refl _ _) n
        clear hn
        have BB44 := Lib.hid (bel2 BB42.out b)
        have fR_44 := Lib.hid (fR_42.out.below b)
        clear fR_42
        have fkl_44 := Lib.hid (fkl_42.out.below b)
        clear fkl_42
        have fk3_44 := Lib.hid (fk3_42.out.below b)
        clear fk3_42
        have fk4_44 := Lib.hid (k4.out.below b)
        clear k4
        clear BB42
        clear b
        go_wp2
        go_ret
        exact ⟨rfl, BB44.out⟩
end Go.Proofs.Ytakamboflfkchaa.fnLines
