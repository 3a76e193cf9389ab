/-
  For all drawn polygons, areas follow from the points of the boundary and inside, and mixed areas are the same both ways.
-/
import Derived.Test.YtamejfeaniokfaaRows
import Derived.WalkKit
import Derived.ProofKit
import Derived.OpenShut
import Derived.ShutString
import Derived.Below
import Derived.Carry
import Derived.Lib.SmallJoins
import Derived.SizedLaws
import Derived.Test.YtamejfeaniokfaaArP
import Derived.Test.YtamejfeaniokfaaDrawX
import Derived.Test.YtamejfeaniokfaaQPt
import Derived.Deep.DeepCutAuto
namespace Go.Proofs.Ytamejfeaniokfaa.fnAreas
set_option linter.unusedSimpArgs false
set_option linter.unusedVariables false
open Go.ChangeShapes Go.WideShapes Go.ChangeAt Go.RowKit
open Go.ChangeMaps (open_string shut_string)
set_option linter.unusedVariables false
set_option maxRecDepth 100000
set_option maxHeartbeats 8000000 in

theorem walk (a0 : Option Addr) (len0 cap0 : Nat) (z0 : List Int) (a1 : Option Addr) (len1 cap1 : Nat) (z1 : List Int) (w : World) (w0 : IsRow .u8 w a0 len0 cap0 z0) (rr0 : len0 ≤ 140737488355328) (w1 : IsRow .u8 w a1 len1 cap1 z1) (rr1 : len1 ≤ 140737488355328) :
    Calls Try.prog 3 #[.slice a0 len0 cap0, .slice a1 len1 cap1] w fun e w' => e = .returned (.bool true) ∧ Below w.heap.size w w' := by
  have hl0 : len0 ≤ 9223372036854775807 := by
    rcases w0 with ⟨_, h, _⟩ | ⟨x, _, h1, h2, _⟩
    · omega
    · unfold maxLen at h2; omega
  have hl1 : len1 ≤ 9223372036854775807 := by
    rcases w1 with ⟨_, h, _⟩ | ⟨x, _, h1, h2, _⟩
    · omega
    · unfold maxLen at h2; omega
  have hR := Lib.hid (RB.of_row w0)
  have hR' := Lib.hid (RB.of_row w1)
  clear w0 w1
  by_cases hbig : 1048576 < len0 + len1
  · have hbig' : (1048576 : Int) < (len0 : Int) + len1 := by omega
    go_enter Try.func3, Try.ntmps3
    go_wp2
    go_ret
    exact ⟨rfl, Below.refl _ _⟩
  · have hb0 : len0 ≤ 1048576 := by omega
    have hb1 : len1 ≤ 1048576 := by omega
    have hbig' : ¬ (1048576 : Int) < (len0 : Int) + len1 := by omega
    have Hb0 := Lib.hid hb0
    have Hb1 := Lib.hid hb1
  
    go_enter Try.func3, Try.ntmps3
    go_wp2_with fail
    refine (drawMixedArea_any _ _ _ _ hR.out Hb0.out).mono ?_
    rintro e W1 ⟨av, a, bv, b, rfl, ha, hb, -, -, b0⟩
    have BB2 := Lib.hid (b0)
    have ka := Lib.hid ha
    have kb := Lib.hid hb
    clear ha hb b0
    obtain ⟨A0, cap0', e0, -, -⟩ := PtS.parts ka.out
    subst e0
    obtain ⟨A1, cap1', e1, -, -⟩ := PtS.parts kb.out
    subst e1
    obtain ⟨av, hav⟩ : ∃ z, z = Value.slice A0 a.length cap0' := ⟨_, rfl⟩
    obtain ⟨bv, hbv⟩ : ∃ z, z = Value.slice A1 b.length cap1' := ⟨_, rfl⟩
    obtain ⟨ok, hok⟩ : ∃ z, z = sgB a b := ⟨_, rfl⟩
    obtain ⟨mx, hmx⟩ : ∃ z, z = mxR a b := ⟨_, rfl⟩
    obtain ⟨s, hs⟩ : ∃ z, z = sgR a b := ⟨_, rfl⟩
    obtain ⟨d1, hd1⟩ : ∃ z, z = daR a := ⟨_, rfl⟩
    obtain ⟨d2, hd2⟩ : ∃ z, z = daR b := ⟨_, rfl⟩
    obtain ⟨d3, hd3⟩ : ∃ z, z = daR s := ⟨_, rfl⟩
    have HF := Lib.hid (show ok = true → pgB a = true ∧ pgB b = true ∧ pgB s = true ∧ d3 = d1 + d2 + 2 * mx ∧ 0 ≤ mx ∧ mx ≤ 200000000 ∧ (-80000000 ≤ d1 ∧ d1 ≤ 80000000) ∧ (-80000000 ≤ d2 ∧ d2 ≤ 80000000) by rw [hok, hmx, hd1, hd2, hd3, hs]; exact sum_fits)
    have C1 := Lib.hid (fun W B B' (h : PtS W B av a) (h' : PtS W B' bv b) => show Calls Try.prog 5 #[av, bv] W fun e w' => GivesZB mx ok W e w' by rw [hmx, hok]; exact implMixedArea_any W B B' av bv a b h h')
    have C2 := Lib.hid (fun W B B' (h : PtS W B av a) (h' : PtS W B' bv b) => show Calls Try.prog 6 #[av, bv] W fun e w' => GivesZB mx ok W e w' by rw [hmx, hok]; exact specMixedArea_any W B B' av bv a b h h')
    have C3 := Lib.hid (fun W B B' (h : PtS W B av a) (h' : PtS W B' bv b) => show Calls Try.prog 7 #[av, bv] W fun e w' => GivesPtB ok s W e w' by rw [hok, hs]; exact implSumOfPolygons_any W B B' av bv a b h h')
    have C4 := Lib.hid (fun W B B' (h : PtS W B av a) (h' : PtS W B' bv b) => show Calls Try.prog 8 #[av, bv] W fun e w' => GivesPtB ok s W e w' by rw [hok, hs]; exact specSumOfPolygons_any W B B' av bv a b h h')
    have C5 := Lib.hid (fun W B B' (h : PtS W B av a) (h' : PtS W B' bv b) => show Calls Try.prog 5 #[bv, av] W fun e w' => GivesZB mx ok W e w' by rw [hmx, hok, ← mxR_comm, ← sgB_comm]; exact implMixedArea_any W B' B bv av b a h' h)
    have D1 := Lib.hid (fun W B (h : PtS W B av a) => show Calls Try.prog 11 #[av] W fun e w' => GivesZB d1 (pgB a) W e w' by rw [hd1]; exact specDoubleArea_any W B av a h)
    have D2 := Lib.hid (fun W B (h : PtS W B bv b) => show Calls Try.prog 11 #[bv] W fun e w' => GivesZB d2 (pgB b) W e w' by rw [hd2]; exact specDoubleArea_any W B bv b h)
    have D3 := Lib.hid (fun W B v (h : PtS W B v s) => show Calls Try.prog 10 #[v] W fun e w' => GivesZB d3 (pgB s) W e w' by rw [hd3]; exact implDoubleArea_any W B v s h)
    clear hok hmx hs hd1 hd2 hd3
    subst hav
    subst hbv
    go_wp2_with fail
    refine (C1.out _ _ _ ka.out kb.out).mono ?_
    rintro e W3 ⟨rfl, b⟩
    have BB4 := Lib.hid (bel2 BB2.out b)
    have fa_4 := Lib.hid (FS.below ka.out b)
    clear ka
    have fb_4 := Lib.hid (FS.below kb.out b)
    clear kb
    clear BB2
    clear b
    go_wp2_with fail
    refine (C2.out _ _ _ fa_4.out fb_4.out).mono ?_
    rintro e W5 ⟨rfl, b⟩
    have BB6 := Lib.hid (bel2 BB4.out b)
    have fa_6 := Lib.hid (FS.below fa_4.out b)
    clear fa_4
    have fb_6 := Lib.hid (FS.below fb_4.out b)
    clear fb_4
    clear BB4
    clear b
    go_wp2_with fail
    refine (C3.out _ _ _ fa_6.out fb_6.out).mono ?_
    rintro e W7 ⟨r1, rfl, h1, b⟩
    have BB8 := Lib.hid (bel2 BB6.out b)
    have fa_8 := Lib.hid (FS.below fa_6.out b)
    clear fa_6
    have fb_8 := Lib.hid (FS.below fb_6.out b)
    clear fb_6
    clear BB6
    have k1 := Lib.hid h1
    clear h1 b
    go_wp2_with fail
    refine (C4.out _ _ _ fa_8.out fb_8.out).mono ?_
    rintro e W9 ⟨r2, rfl, h2, b⟩
    have BB10 := Lib.hid (bel2 BB8.out b)
    have fa_10 := Lib.hid (FS.below fa_8.out b)
    clear fa_8
    have fb_10 := Lib.hid (FS.below fb_8.out b)
    clear fb_8
    have fs_10 := Lib.hid (FS.below k1.out b)
    clear k1
    clear BB8
    have k2 := Lib.hid h2
    clear h2 b C1 C2 C3 C4
    obtain ⟨A2, cap2', e2, -, -⟩ := PtS.parts fs_10.out
    subst e2
    obtain ⟨A3, cap3', e3, -, -⟩ := PtS.parts k2.out
    subst e3
    go_wp2_with fail
    refine (qPoints_same _ _ _ _ _ _ fs_10.out k2.out).mono ?_
    rintro e W11 ⟨rfl, n, hn⟩
    have b : Below W9.heap.size W9 W11 := by rw [hn]; exact belN (Below.refl _ _) n
    clear hn
    have BB12 := Lib.hid (bel2 BB10.out b)
    have fa_12 := Lib.hid (FS.below fa_10.out b)
    clear fa_10
    have fb_12 := Lib.hid (FS.below fb_10.out b)
    clear fb_10
    have fs_12 := Lib.hid (FS.below fs_10.out b)
    clear fs_10
    have ft_12 := Lib.hid (FS.below k2.out b)
    clear k2
    clear BB10
    clear b
    clear ft_12
    go_upto_if 105 with fail
    go_cut [105] (fun _ wx => Below w.heap.size w wx)
    case first =>
      as_aux_lemma =>
        cases ok
        · go_wp2_with fail
          go_meet
          exact BB12.out
        · obtain ⟨p1, p2, p3, q1, q2, q3, q4, q5⟩ := HF.out (by first | rfl | trivial)
          rw [p1] at D1
          rw [p2] at D2
          rw [p3] at D3
          have Q1 := Lib.hid q1
          have Q2 := Lib.hid (And.intro q2 (And.intro q3 (And.intro q4 q5)))
          clear HF p1 p2 p3 q1 q2 q3 q4 q5
          go_wp2_with fail
          refine (C5.out _ _ _ fa_12.out fb_12.out).mono ?_
          rintro e W13 ⟨rfl, b⟩
          have BB14 := Lib.hid (bel2 BB12.out b)
          have fa_14 := Lib.hid (FS.below fa_12.out b)
          clear fa_12
          have fb_14 := Lib.hid (FS.below fb_12.out b)
          clear fb_12
          have fs_14 := Lib.hid (FS.below fs_12.out b)
          clear fs_12
          clear BB12
          clear b
          go_wp2_with fail
          refine (D3.out _ _ _ fs_14.out).mono ?_
          rintro e W15 ⟨rfl, b⟩
          have BB16 := Lib.hid (bel2 BB14.out b)
          have fa_16 := Lib.hid (FS.below fa_14.out b)
          clear fa_14
          have fb_16 := Lib.hid (FS.below fb_14.out b)
          clear fb_14
          have fs_16 := Lib.hid (FS.below fs_14.out b)
          clear fs_14
          clear BB14
          clear b
          go_wp2_with fail
          refine (D1.out _ _ fa_16.out).mono ?_
          rintro e W17 ⟨rfl, b⟩
          have BB18 := Lib.hid (bel2 BB16.out b)
          have fa_18 := Lib.hid (FS.below fa_16.out b)
          clear fa_16
          have fb_18 := Lib.hid (FS.below fb_16.out b)
          clear fb_16
          have fs_18 := Lib.hid (FS.below fs_16.out b)
          clear fs_16
          clear BB16
          clear b
          go_wp2_with fail
          refine (D2.out _ _ fb_18.out).mono ?_
          rintro e W19 ⟨rfl, b⟩
          have BB20 := Lib.hid (bel2 BB18.out b)
          have fa_20 := Lib.hid (FS.below fa_18.out b)
          clear fa_18
          have fb_20 := Lib.hid (FS.below fb_18.out b)
          clear fb_18
          have fs_20 := Lib.hid (FS.below fs_18.out b)
          clear fs_18
          clear BB18
          clear b
          have q1 := Q1.out
          obtain ⟨q2, q3, q4, q5⟩ := Q2.out
          have hn0 : ¬ mx < 0 := by omega
          have v1 : IntKind.i64.wrap (d1 + d2) = d1 + d2 := IntWalk.i64_in _ (by omega)
          have v2 : IntKind.i64.wrap (2 * mx) = 2 * mx := IntWalk.i64_in _ (by omega)
          have v3 : IntKind.i64.wrap (d1 + d2 + 2 * mx) = d3 := by rw [q1]; exact IntWalk.i64_in _ (by omega)
          clear q1 q2 q3 q4 q5 Q1 Q2 C5 D1 D2 D3
          go_wp2_with fail
          go_meet
          exact BB20.out
    case rest =>
    have BC := Lib.hid hcut
    clear hcut HF C5 D1 D2 D3 BB12 fa_12 fb_12 fs_12
    go_wp2_with fail
    refine (drawDoubleArea_any _ _ _ _ (RB.below hR'.out BC.out) Hb1.out).mono ?_
    rintro e W13 ⟨lv, l, rfl, hl, hn, b⟩
    have BB14 := Lib.hid (bel2 BC.out b)
    clear BC
    have kl := Lib.hid hl
    clear hl hn b
    obtain ⟨A4, cap4', e4, -, -⟩ := PtS.parts kl.out
    subst e4
    obtain ⟨lv, hlv⟩ : ∃ z, z = Value.slice A4 l.length cap4' := ⟨_, rfl⟩
    obtain ⟨tl, htl⟩ : ∃ z, z = pgB l := ⟨_, rfl⟩
    obtain ⟨da, hda⟩ : ∃ z, z = daR l := ⟨_, rfl⟩
    obtain ⟨bn, hbn⟩ : ∃ z, z = bnR l := ⟨_, rfl⟩
    obtain ⟨inn, hin⟩ : ∃ z, z = inR l := ⟨_, rfl⟩
    have HP := Lib.hid (show tl = true → 2 < l.length → da = 2 * inn + bn - 2 ∧ (-200000000 ≤ inn ∧ inn ≤ 200000000) ∧ 0 ≤ bn ∧ bn ≤ 160001 by rw [htl, hda, hbn, hin]; exact pick_fits)
    have E1 := Lib.hid (fun W B (h : PtS W B lv l) => show Calls Try.prog 10 #[lv] W fun e w' => GivesZB da tl W e w' by rw [hda, htl]; exact implDoubleArea_any W B lv l h)
    have E2 := Lib.hid (fun W B (h : PtS W B lv l) => show Calls Try.prog 11 #[lv] W fun e w' => GivesZB da tl W e w' by rw [hda, htl]; exact specDoubleArea_any W B lv l h)
    have E3 := Lib.hid (fun W B (h : PtS W B lv l) => show Calls Try.prog 13 #[lv] W fun e w' => GivesZB bn tl W e w' by rw [hbn, htl]; exact implBoundaryPoints_any W B lv l h)
    have E4 := Lib.hid (fun W B (h : PtS W B lv l) => show Calls Try.prog 14 #[lv] W fun e w' => GivesZB bn tl W e w' by rw [hbn, htl]; exact specBoundaryPoints_any W B lv l h)
    have E5 := Lib.hid (fun W B (h : PtS W B lv l) => show Calls Try.prog 15 #[lv] W fun e w' => GivesZB inn tl W e w' by rw [hin, htl]; exact implInnerPoints_any W B lv l h)
    have E6 := Lib.hid (fun W B (h : PtS W B lv l) => show Calls Try.prog 16 #[lv] W fun e w' => GivesZB inn tl W e w' by rw [hin, htl]; exact specInnerPoints_any W B lv l h)
    have E7 := Lib.hid (fun W B (h : PtS W B lv l) => show Calls Try.prog 17 #[lv] W fun e w' => e = .returned (.bool tl) ∧ Below W.heap.size W w' by rw [htl]; exact implIsPolygon_any W B lv l h)
    clear htl hda hbn hin
    subst hlv
    go_wp2_with fail
    refine (E1.out _ _ kl.out).mono ?_
    rintro e W15 ⟨rfl, b⟩
    have BB16 := Lib.hid (bel2 BB14.out b)
    have fl_16 := Lib.hid (FS.below kl.out b)
    clear kl
    clear BB14
    clear b
    go_wp2_with fail
    refine (E2.out _ _ fl_16.out).mono ?_
    rintro e W17 ⟨rfl, b⟩
    have BB18 := Lib.hid (bel2 BB16.out b)
    have fl_18 := Lib.hid (FS.below fl_16.out b)
    clear fl_16
    clear BB16
    clear b
    go_wp2_with fail
    refine (E3.out _ _ fl_18.out).mono ?_
    rintro e W19 ⟨rfl, b⟩
    have BB20 := Lib.hid (bel2 BB18.out b)
    have fl_20 := Lib.hid (FS.below fl_18.out b)
    clear fl_18
    clear BB18
    clear b
    go_wp2_with fail
    refine (E4.out _ _ fl_20.out).mono ?_
    rintro e W21 ⟨rfl, b⟩
    have BB22 := Lib.hid (bel2 BB20.out b)
    have fl_22 := Lib.hid (FS.below fl_20.out b)
    clear fl_20
    clear BB20
    clear b
    go_wp2_with fail
    refine (E5.out _ _ fl_22.out).mono ?_
    rintro e W23 ⟨rfl, b⟩
    have BB24 := Lib.hid (bel2 BB22.out b)
    have fl_24 := Lib.hid (FS.below fl_22.out b)
    clear fl_22
    clear BB22
    clear b
    go_wp2_with fail
    refine (E6.out _ _ fl_24.out).mono ?_
    rintro e W25 ⟨rfl, b⟩
    have BB26 := Lib.hid (bel2 BB24.out b)
    have fl_26 := Lib.hid (FS.below fl_24.out b)
    clear fl_24
    clear BB24
    clear b
    go_wp2_with fail
    refine (E7.out _ _ fl_26.out).mono ?_
    rintro e W27 ⟨rfl, b⟩
    have BB28 := Lib.hid (bel2 BB26.out b)
    have fl_28 := Lib.hid (FS.below fl_26.out b)
    clear fl_26
    clear BB26
    clear b
    clear E1 E2 E3 E4 E5 E6 E7
    obtain ⟨n, hn⟩ : ∃ n, n = l.length := ⟨_, rfl⟩
    rw [← hn] at HP ⊢
    clear hn fl_28
    go_upto_region 26 with fail
    go_cut [250] (fun r wx => r = .bool false ∧ Below w.heap.size w wx)
    case first =>
      as_aux_lemma =>
        cases tl
        · go_wp2_with fail
          go_meet
          exact ⟨rfl, BB28.out⟩
        · by_cases h2 : (2 : Int) < (n : Int)
          · have h2n : 2 < n := by omega
            obtain ⟨q1, q2, q3, q4⟩ := HP.out (by first | rfl | trivial) (by omega)
            have v1 : IntKind.i64.wrap (2 * inn) = 2 * inn := IntWalk.i64_in _ (by omega)
            have v2 : IntKind.i64.wrap (2 * inn + bn) = 2 * inn + bn := IntWalk.i64_in _ (by omega)
            have v3 : IntKind.i64.wrap (2 * inn + bn - 2) = da := by rw [q1]; exact IntWalk.i64_in _ (by omega)
            clear HP q1 q2 q3 q4
            go_wp2_with fail
            go_meet
            exact ⟨rfl, BB28.out⟩
          · have h2n : ¬ 2 < n := by omega
            clear HP
            go_wp2_with fail
            go_meet
            exact ⟨rfl, BB28.out⟩
    case rest =>
    obtain ⟨hcr, bx⟩ := hcut
    subst hcr
    have BD := Lib.hid bx
    clear bx HP BB28
    go_wp2_with fail
    refine (drawWidthIn_any _ _ _ _ (RB.below hR'.out BD.out) Hb1.out).mono ?_
    rintro e W29 ⟨uv, u, t, rfl, hu, hn, b⟩
    have BB30 := Lib.hid (bel2 BD.out b)
    clear BD
    have ku := Lib.hid hu
    clear hu hn b
    obtain ⟨A5, cap5', e5, -, -⟩ := PtS.parts ku.out
    subst e5
    obtain ⟨uv, huv⟩ : ∃ z, z = Value.slice A5 u.length cap5' := ⟨_, rfl⟩
    obtain ⟨wd, hwd⟩ : ∃ z, z = wdR u t := ⟨_, rfl⟩
    obtain ⟨nine, h9⟩ : ∃ z, z = hpB u t := ⟨_, rfl⟩
    obtain ⟨is, his⟩ : ∃ z, z = sgB u u := ⟨_, rfl⟩
    obtain ⟨tw, htw⟩ : ∃ z, z = sgR u u := ⟨_, rfl⟩
    have HW := Lib.hid (show 0 ≤ wd ∧ wd ≤ 40000 by rw [hwd]; exact wd_bd u t)
    have G1 := Lib.hid (fun W B (h : PtS W B uv u) => show Calls Try.prog 19 #[uv, ptV t] W fun e w' => GivesZB wd nine W e w' by rw [hwd, h9]; exact implWidthIn_any W B uv u t h)
    have G2 := Lib.hid (fun W B (h : PtS W B uv u) => show Calls Try.prog 20 #[uv, ptV t] W fun e w' => GivesZB wd nine W e w' by rw [hwd, h9]; exact specWidthIn_any W B uv u t h)
    have G3 := Lib.hid (fun W B (h : PtS W B uv u) => show Calls Try.prog 7 #[uv, uv] W fun e w' => GivesPtB is tw W e w' by rw [his, htw]; exact implSumOfPolygons_any W B B uv uv u u h h)
    have G4 := Lib.hid (fun (e1 : nine = true) (e2 : is = true) W B v (h : PtS W B v tw) => show Calls Try.prog 19 #[v, ptV t] W fun e w' => GivesZB (2 * wd) true W e w' by
      obtain ⟨y1, y2⟩ := width_fits (u := u) (d := t) (by rw [← h9]; exact e1) (by rw [← his]; exact e2)
      have := implWidthIn_any W B v tw t h
      rwa [htw, y1, y2, ← hwd] at this)
    clear hwd h9 his htw
    subst huv
    obtain ⟨ta, tb⟩ := t
    have fx31 := Lib.hid (P2.new W29 (ta, tb) 35)
    have bx31 : Below W29.heap.size W29 (W29.alloc (.cells #[.int .i64 (ta), .int .i64 (tb)] 35)) := (Below.refl _ _).alloc (Nat.le_refl _) _
    have BB32 := Lib.hid (bel2 BB30.out bx31)
    have fu_32 := Lib.hid (FS.below ku.out bx31)
    clear ku
    clear BB30
    have yt := fx31.out
    obtain ⟨t0, t1⟩ := yt
    have tl := cell_lt t0
    go_wp2_with fail
    refine (G1.out _ _ fu_32.out).mono ?_
    rintro e W33 ⟨rfl, b⟩
    clear t0 t1 tl
    have BB34 := Lib.hid (bel2 BB32.out b)
    have fu_34 := Lib.hid (FS.below fu_32.out b)
    clear fu_32
    have ft_34 := Lib.hid (P2.below fx31.out b)
    clear fx31
    clear BB32
    clear b
    have yt := ft_34.out
    obtain ⟨t0, t1⟩ := yt
    have tl := cell_lt t0
    go_wp2_with fail
    refine (G2.out _ _ fu_34.out).mono ?_
    rintro e W35 ⟨rfl, b⟩
    clear t0 t1 tl
    have BB36 := Lib.hid (bel2 BB34.out b)
    have fu_36 := Lib.hid (FS.below fu_34.out b)
    clear fu_34
    have ft_36 := Lib.hid (P2.below ft_34.out b)
    clear ft_34
    clear BB34
    clear b
    obtain ⟨g1, g2⟩ := HW.out
    have hn0 : ¬ wd < 0 := by omega
    have v1 : IntKind.i64.wrap (2 * wd) = 2 * wd := IntWalk.i64_in _ (by omega)
    clear g1 g2 HW G1 G2
    cases nine
    · clear G3 G4
      have yt := ft_36.out
      obtain ⟨t0, t1⟩ := yt
      have tl := cell_lt t0
      go_wp2_with fail
      go_ret
      exact ⟨rfl, BB36.out⟩
    · have yt := ft_36.out
      obtain ⟨t0, t1⟩ := yt
      have tl := cell_lt t0
      go_wp2_with fail
      refine (G3.out _ _ fu_36.out).mono ?_
      rintro e W37 ⟨r5, rfl, h5, b⟩
      clear t0 t1 tl
      have BB38 := Lib.hid (bel2 BB36.out b)
      have fu_38 := Lib.hid (FS.below fu_36.out b)
      clear fu_36
      have ft_38 := Lib.hid (P2.below ft_36.out b)
      clear ft_36
      clear BB36
      have k5 := Lib.hid h5
      clear h5 b G3
      cases is
      · clear G4
        have yt := ft_38.out
        obtain ⟨t0, t1⟩ := yt
        have tl := cell_lt t0
        go_wp2_with fail
        go_ret
        exact ⟨rfl, BB38.out⟩
      · have yt := ft_38.out
        obtain ⟨t0, t1⟩ := yt
        have tl := cell_lt t0
        go_wp2_with fail
        refine (G4.out (by first | rfl | trivial) (by first | rfl | trivial) _ _ _ k5.out).mono ?_
        rintro e W39 ⟨rfl, b⟩
        clear t0 t1 tl
        have BB40 := Lib.hid (bel2 BB38.out b)
        have fu_40 := Lib.hid (FS.below fu_38.out b)
        clear fu_38
        have fk_40 := Lib.hid (FS.below k5.out b)
        clear k5
        have ft_40 := Lib.hid (P2.below ft_38.out b)
        clear ft_38
        clear BB38
        clear b
        clear G4
        have yt := ft_40.out
        obtain ⟨t0, t1⟩ := yt
        have tl := cell_lt t0
        go_wp2_with fail
        go_ret
        exact ⟨rfl, BB40.out⟩
end Go.Proofs.Ytamejfeaniokfaa.fnAreas
