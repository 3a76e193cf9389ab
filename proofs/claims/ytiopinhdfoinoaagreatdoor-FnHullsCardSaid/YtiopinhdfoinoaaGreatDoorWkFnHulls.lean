/-
  For all drawn points, hulls are polygons that have all points, edges lead back, and texts are read back.
  No condition but that the tables and the sentinels of the program and of Go's library hold what the program's text lays there (the card ties them).
-/
import Derived.Test.YtiopinhdfoinoaaGreatDoorRows
import Derived.WalkKit
import Derived.ProofKit
import Derived.OpenShut
import Derived.ShutString
import Derived.Below
import Derived.Carry
import Derived.Lib.SmallJoins
import Derived.SizedLaws
import Derived.MakeChecks
import Derived.OpenVars
import Derived.LaidMore
import Derived.Stop.Joined
import Derived.Lib.LaidTab
import Derived.Test.YtiopinhdfoinoaaGreatDoorHuQ
import Derived.Deep.DeepCutAuto
namespace Go.Proofs.YtiopinhdfoinoaaGreatDoor.fnHulls
set_option linter.unusedSimpArgs false
set_option linter.unusedVariables false
open Go.ChangeShapes Go.WideShapes Go.ChangeAt Go.RowKit
open Go.ChangeMaps (open_string shut_string)
set_option linter.unusedVariables false
/-- What the condition gives: the tables' cells. -/
theorem laid_of {W : World} (h : laidMetH Tryz.prog Rows.fnHullsRow.laid W) (hsh : W.ShapedOpen Tryz.prog) : Neut W ∧ Names W ∧ Pows W ∧ Sents W ∧ MaxM W := by
  rw [MakeChecks.laidMetH_plain _ _ _ (by kernel_rfl)] at h
  have h1 := laidMet.tail h
  have h2 := laidMet.tail h1
  have h3 := laidMet.tail h2
  have h4 := laidMet.tail h3
  have h5 := laidMet.tail h4
  have h6 := laidMet.tail h5
  have h7 := laidMet.tail h6
  have h8 := laidMet.tail h7
  exact ⟨neut_of_head h6, names_of_laid h7, pows_of_laid h2, ⟨syntax_of_laid h5, range_of_laid h4⟩, Tryz.laysM147.s1_3 W hsh⟩
set_option maxRecDepth 100000
set_option maxHeartbeats 8000000 in

theorem walk (a0 : Option Addr) (len0 cap0 : Nat) (z0 : List Int) (a1 : Option Addr) (len1 cap1 : Nat) (z1 : List Int) (w : World) (w0 : IsRow .u8 w a0 len0 cap0 z0) (rr0 : len0 ≤ 140737488355328) (w1 : IsRow .u8 w a1 len1 cap1 z1) (rr1 : len1 ≤ 140737488355328) (hN : Neut w ∧ Names w ∧ Pows w ∧ Sents w ∧ MaxM w) :
    Calls Tryz.prog 3 #[.slice a0 len0 cap0, .slice a1 len1 cap1] w fun e w' => e = .returned (.bool true) ∧ Below w.heap.size w w' := by
  have hl0 : len0 ≤ 9223372036854775807 := by
    rcases w0 with ⟨_, h, _⟩ | ⟨x, _, h1, h2, _⟩
    · omega
    · unfold maxLen at h2; omega
  have hl1 : len1 ≤ 9223372036854775807 := by
    rcases w1 with ⟨_, h, _⟩ | ⟨x, _, h1, h2, _⟩
    · omega
    · unfold maxLen at h2; omega
  have hR := Lib.hid (RB.of_row w0)
  have hR' := Lib.hid (RB.of_row w1)
  have N := Lib.hid hN
  clear w0 w1 hN
  by_cases hbig : 1048576 < len0 + len1
  · have hbig' : (1048576 : Int) < (len0 : Int) + len1 := by omega
    go_enter Tryz.func3, Tryz.ntmps3
    go_wp2
    go_ret
    exact ⟨rfl, Below.refl _ _⟩
  · have hb0 : len0 ≤ 1048576 := by omega
    have hb1 : len1 ≤ 1048576 := by omega
    have hbig' : ¬ (1048576 : Int) < (len0 : Int) + len1 := by omega
    have Hb0 := Lib.hid hb0
    have Hb1 := Lib.hid hb1
  
    go_enter Tryz.func3, Tryz.ntmps3
    go_wp2_with fail
    refine (drawDrawHullOf_any _ _ _ _ hR.out Hb0.out).mono ?_
    rintro e W1 ⟨lv, l, rfl, hl, hn, b0⟩
    have BB2 := Lib.hid (b0)
    have kl := Lib.hid hl
    clear hl hn b0
    obtain ⟨ok, hok⟩ : ∃ z, z = ptsB l := ⟨_, rfl⟩
    obtain ⟨h, hh⟩ : ∃ z, z = huR l := ⟨_, rfl⟩
    have HF := Lib.hid (show ok = true → pgB h = true ∧ ∀ k, k < l.length → ptG (pd l k) = true ∧ hpR h (pd l k) = true ∧ hpB h (pd l k) = true by rw [hok, hh]; exact hull_fits)
    have C1 := Lib.hid (fun W B (hp : PtS W B lv l) => show Calls Tryz.prog 5 #[lv] W fun e w' => GivesPtB ok h W e w' by rw [hok, hh]; exact implHullOf_any W B lv l hp)
    have C2 := Lib.hid (fun W B (hp : PtS W B lv l) => show Calls Tryz.prog 6 #[lv] W fun e w' => GivesPtB ok h W e w' by rw [hok, hh]; exact specHullOf_any W B lv l hp)
    clear hok hh
    go_wp2_with fail
    refine (C1.out _ _ kl.out).mono ?_
    rintro e W3 ⟨r1, rfl, h1, b⟩
    have BB4 := Lib.hid (bel2 BB2.out b)
    have fl_4 := Lib.hid (FS.below kl.out b)
    clear kl
    clear BB2
    have k1 := Lib.hid h1
    clear h1 b
    go_wp2_with fail
    refine (C2.out _ _ fl_4.out).mono ?_
    rintro e W5 ⟨r2, rfl, h2, b⟩
    have BB6 := Lib.hid (bel2 BB4.out b)
    have fl_6 := Lib.hid (FS.below fl_4.out b)
    clear fl_4
    have fh_6 := Lib.hid (FS.below k1.out b)
    clear k1
    clear BB4
    have k2 := Lib.hid h2
    clear h2 b C1 C2
    obtain ⟨A0, cap0', e0, -, -⟩ := PtS.parts fl_6.out
    subst e0
    obtain ⟨A1, cap1', e1, -, -⟩ := PtS.parts fh_6.out
    subst e1
    obtain ⟨A2, cap2', e2, -, -⟩ := PtS.parts k2.out
    subst e2
    go_wp2_with fail
    refine (qPoints_same _ _ _ _ _ _ fh_6.out k2.out).mono ?_
    rintro e W7 ⟨rfl, n, hn⟩
    have b : Below W5.heap.size W5 W7 := by rw [hn]; exact belN (Below.refl _ _) n
    clear hn
    have BB8 := Lib.hid (bel2 BB6.out b)
    have fl_8 := Lib.hid (FS.below fl_6.out b)
    clear fl_6
    have fh_8 := Lib.hid (FS.below fh_6.out b)
    clear fh_6
    have fu_8 := Lib.hid (FS.below k2.out b)
    clear k2
    clear BB6
    clear b
    go_upto_if 68 with fail
    go_cut [68] (fun _ wx => Below w.heap.size w wx)
    case first =>
      as_aux_lemma =>
        cases ok
        · go_wp2_with fail
          go_meet
          exact BB8.out
        · obtain ⟨hg, hk⟩ := HF.out (by first | rfl | trivial)
          have HG := Lib.hid hg
          have HK := Lib.hid hk
          clear HF hg hk
          have CP := Lib.hid (fun W B v (hv : PtS W B v h) => show Calls Tryz.prog 8 #[v] W fun e w' => e = .returned (.bool true) ∧ Below W.heap.size W w' by have := implIsPolygon_any W B v h hv; rwa [HG.out] at this)
          go_wp2_with fail
          refine (CP.out _ _ _ fh_8.out).mono ?_
          rintro e W9 ⟨rfl, b⟩
          have BB10 := Lib.hid (bel2 BB8.out b)
          have fl_10 := Lib.hid (FS.below fl_8.out b)
          clear fl_8
          have fh_10 := Lib.hid (FS.below fh_8.out b)
          clear fh_8
          have fu_10 := Lib.hid (FS.below fu_8.out b)
          clear fu_8
          clear BB8
          clear b CP
          obtain ⟨n, hn⟩ : ∃ n, n = l.length := ⟨_, rfl⟩
          have HN := Lib.hid hn
          have hp0 := Lib.hid (ptS_at fl_10.out)
          rw [← hn] at hp0
          have hn1 : n ≤ 9223372036854775807 := by rw [hn]; obtain ⟨_, _, _, h, _⟩ := (PtS.parts fl_10.out); unfold maxLen at h; exact h
          rw [← hn] at HK ⊢
          clear hn
          go_wp2
          go_loopw [74] (fun i wr => ∃ k : Nat, k ≤ n ∧ i = .int .i64 (k : Int) ∧ Below W9.heap.size W9 wr) (fun i _ => n - (intOf i).toNat)
          case atStart => exact ⟨0, by omega, rfl, Below.refl _ _⟩
          case round =>
            obtain ⟨k, hk, rfl, hb⟩ := hrel
            by_cases hlt : k < n
            · obtain ⟨g, rfl, c⟩ := hp0.out k hlt
              have c := X2.below c hb
              obtain ⟨p, hpd⟩ : ∃ p : Pt, p = pd l k := ⟨_, rfl⟩
              obtain ⟨t1, t2, t3⟩ := HK.out k hlt
              have CH := Lib.hid (fun W B v (hv : PtS W B v h) => show Calls Tryz.prog 9 #[v, ptV p] W fun e w' => e = .returned (.tuple #[.bool true, .bool true]) ∧ Below W.heap.size W w' by have := implHasPoint_any W B v h p hv; unfold GivesBB at this; rw [hpd] at this ⊢; rwa [t2, t3] at this)
              have CI := Lib.hid (fun W => show Calls Tryz.prog 10 #[ptV p] W fun e w' => e = .returned (.bool true) ∧ Gr W w' by have := implIsPoint_any p W; rw [hpd] at this ⊢; rwa [t1] at this)
              rw [← hpd] at c
              clear hpd t1 t2 t3 HN HG
              obtain ⟨px, py⟩ := p
              obtain ⟨c0, c1⟩ := c
              have cl := cell_lt c0
              go_wp2_with fail
              refine (CH.out _ _ _ (FS.alloc (FS.below fh_10.out hb) _)).mono ?_
              rintro e w1 ⟨rfl, b1⟩
              obtain ⟨y0, y1⟩ := P2.below (P2.new wr (px, py) 30) b1
              have yl := cell_lt y0
              have hb1 := bel2 (belA hb _) b1
              clear CH c0 c1 cl b1
              go_wp2_with fail
              refine (CI.out _).mono ?_
              rintro e w2 ⟨rfl, g2⟩
              have hb2 := bel2 hb1 g2.below
              clear CI y0 y1 yl hb1 g2
              go_wp2
              go_roundw
              case rel => exact ⟨k + 1, by omega, by go_num, hb2⟩
              case measure => simp [intOf]; omega
            · clear HK hp0 hn1
              have BB11 := Lib.hid (bel2 BB10.out hb)
              have fl_11 := Lib.hid (FS.below fl_10.out hb)
              clear fl_10
              have fh_11 := Lib.hid (FS.below fh_10.out hb)
              clear fh_10
              have fu_11 := Lib.hid (FS.below fu_10.out hb)
              clear fu_10
              clear BB10
              clear fl_11
              obtain ⟨G, hG⟩ : ∃ G : ByteArray, G = ⟨(pyR h).toArray⟩ := ⟨_, rfl⟩
              obtain ⟨ed, hed⟩ : ∃ z, z = edR h := ⟨_, rfl⟩
              have D1 := Lib.hid (fun W B v (hv : PtS W B v h) => show Calls Tryz.prog 11 #[v] W fun e w' => GivesPtB true ed W e w' by have := implEdgesOf_any W B v h hv; rwa [HG.out, ← hed] at this)
              have D2 := Lib.hid (fun W B v (hv : PtS W B v h) => show Calls Tryz.prog 12 #[v] W fun e w' => GivesPtB true ed W e w' by have := specEdgesOf_any W B v h hv; rwa [HG.out, ← hed] at this)
              have D3 := Lib.hid (fun W B v (hN1 : Neut W) (hN2 : Names W) (hN3 : Pows W) (hv : PtS W B v h) => show Calls Tryz.prog 13 #[v] W fun e w' => e = .returned (.tuple #[.string G, .bool true]) ∧ Below W.heap.size W w' by have := implPolygonText_any W hN1 hN2 hN3 B v h hv; unfold GivesPyX at this; rwa [HG.out, ← hG] at this)
              have D4 := Lib.hid (fun W B v (hv : PtS W B v h) => show Calls Tryz.prog 14 #[v] W fun e w' => e = .returned (.tuple #[.string G, .bool true]) ∧ Below W.heap.size W w' by have := specPolygonText_any W B v h hv; unfold GivesPyX at this; rwa [HG.out, ← hG] at this)
              have PL := Lib.hid (fun W (h1 : Neut W) (h2 : Names W) (h3 : Pows W) (h4 : Sents W) (h5 : MaxM W) => show Calls Tryz.prog 15 #[.string G] W fun e w' => GivesPtB true h W e w' by
                obtain ⟨p1, p2, p3⟩ := text_fits HG.out
                have := implParsePolygon_any ⟨(pyR h).toArray⟩ W (by rw [size_of_list]; omega) h1 h2 h3 h4 h5
                rw [show (ByteArray.mk (pyR h).toArray).data.toList = pyR h by simp, p1, p2] at this
                rw [hG]
                exact this)
              have HE := Lib.hid (edges_fits2 HG.out)
              rw [← hed] at HE
              clear HG hG hed
              go_wp2_with fail
              refine (D1.out _ _ _ fh_11.out).mono ?_
              rintro e W12 ⟨r3, rfl, h3, b⟩
              have BB13 := Lib.hid (bel2 BB11.out b)
              have fh_13 := Lib.hid (FS.below fh_11.out b)
              clear fh_11
              have fu_13 := Lib.hid (FS.below fu_11.out b)
              clear fu_11
              clear BB11
              have k3 := Lib.hid h3
              clear h3 b
              go_wp2_with fail
              refine (D2.out _ _ _ fu_13.out).mono ?_
              rintro e W14 ⟨r4, rfl, h4, b⟩
              have BB15 := Lib.hid (bel2 BB13.out b)
              have fh_15 := Lib.hid (FS.below fh_13.out b)
              clear fh_13
              have fu_15 := Lib.hid (FS.below fu_13.out b)
              clear fu_13
              have fe_15 := Lib.hid (FS.below k3.out b)
              clear k3
              clear BB13
              have k4 := Lib.hid h4
              clear h4 b
              go_wp2_with fail
              refine (D3.out _ _ _ (N.out.1.below BB15.out) (N.out.2.1.below BB15.out) (N.out.2.2.1.below BB15.out) fh_15.out).mono ?_
              rintro e W16 ⟨rfl, b⟩
              have BB17 := Lib.hid (bel2 BB15.out b)
              have fh_17 := Lib.hid (FS.below fh_15.out b)
              clear fh_15
              have fu_17 := Lib.hid (FS.below fu_15.out b)
              clear fu_15
              have fe_17 := Lib.hid (FS.below fe_15.out b)
              clear fe_15
              have fd_17 := Lib.hid (FS.below k4.out b)
              clear k4
              clear BB15
              clear b
              go_wp2_with fail
              refine (D4.out _ _ _ fu_17.out).mono ?_
              rintro e W18 ⟨rfl, b⟩
              have BB19 := Lib.hid (bel2 BB17.out b)
              have fh_19 := Lib.hid (FS.below fh_17.out b)
              clear fh_17
              have fu_19 := Lib.hid (FS.below fu_17.out b)
              clear fu_17
              have fe_19 := Lib.hid (FS.below fe_17.out b)
              clear fe_17
              have fd_19 := Lib.hid (FS.below fd_17.out b)
              clear fd_17
              clear BB17
              clear b D1 D2 D3 D4
              clear fu_19
              obtain ⟨A3, cap3', e3, -, -⟩ := PtS.parts fe_19.out
              subst e3
              obtain ⟨A4, cap4', e4, -, -⟩ := PtS.parts fd_19.out
              subst e4
              go_wp2_with fail
              refine (qPoints_same _ _ _ _ _ _ fe_19.out fd_19.out).mono ?_
              rintro e W20 ⟨rfl, n, hn⟩
              have b : Below W18.heap.size W18 W20 := by rw [hn]; exact belN (Below.refl _ _) n
              clear hn
              have BB21 := Lib.hid (bel2 BB19.out b)
              have fh_21 := Lib.hid (FS.below fh_19.out b)
              clear fh_19
              have fe_21 := Lib.hid (FS.below fe_19.out b)
              clear fe_19
              have fd_21 := Lib.hid (FS.below fd_19.out b)
              clear fd_19
              clear BB19
              clear b
              clear fe_21
              obtain ⟨m, hm⟩ : ∃ m, m = ed.length := ⟨_, rfl⟩
              have hp1 := Lib.hid (ptS_at fd_21.out)
              rw [← hm] at hp1
              have hm1 : m ≤ 9223372036854775807 := by rw [hm]; obtain ⟨_, _, _, h, _⟩ := (PtS.parts fd_21.out); unfold maxLen at h; exact h
              rw [← hm] at HE ⊢
              clear hm
              obtain ⟨fx, fy, z0, z1, z2, z3, hst⟩ := HE.out
              have HS := Lib.hid hst
              have Z0 := Lib.hid z0
              have Z1 := Lib.hid z1
              have Z2 := Lib.hid z2
              have Z3 := Lib.hid z3
              clear HE hst z0 z1 z2 z3 fd_21
              go_wp2
              go_loopw [22, 23, 143] (fun x y i wx => ∃ k : Nat, k ≤ m ∧ i = .int .i64 (k : Int) ∧ x = .int .i64 (fx k) ∧ y = .int .i64 (fy k) ∧ Below W20.heap.size W20 wx) (fun _ _ i _ => m - (intOf i).toNat)
              case atStart => exact ⟨0, by omega, rfl, by rw [Z0.out], by rw [Z1.out], Below.refl _ _⟩
              case round =>
                obtain ⟨k, hk, rfl, rfl, rfl, hb⟩ := hrel
                by_cases hlt : k < m
                · obtain ⟨g, rfl, c⟩ := hp1.out k hlt
                  have c := X2.below c hb
                  obtain ⟨p, hpd⟩ : ∃ p : Pt, p = pd ed k := ⟨_, rfl⟩
                  obtain ⟨s1, s2, s3, s4⟩ := HS.out k hlt
                  rw [← hpd] at c s1 s2
                  have q1 : IntKind.i64.wrap (fx k + p.1) = fx (k + 1) := by rw [s1] at s3; rw [s1]; exact IntWalk.i64_in _ (by omega)
                  have q2 : IntKind.i64.wrap (fy k + p.2) = fy (k + 1) := by rw [s2] at s4; rw [s2]; exact IntWalk.i64_in _ (by omega)
                  clear hpd s1 s2 s3 s4
                  obtain ⟨px, py⟩ := p
                  obtain ⟨c0, c1⟩ := c
                  have cl := cell_lt c0
                  have hb2 := Lib.hid (belA hb (.cells #[.int .i64 px, .int .i64 py] 30))
                  go_wp2
                  clear q1 q2
                  go_roundw
                  case rel => exact ⟨k + 1, by omega, by go_num, rfl, rfl, hb2.out⟩
                  case measure => simp [intOf]; omega
                · obtain rfl : k = m := by omega
                  rw [Z2.out, Z3.out]
                  clear HS hp1 hm1 Z0 Z1 Z2 Z3
                  have BB22 := Lib.hid (bel2 BB21.out hb)
                  have fh_22 := Lib.hid (FS.below fh_21.out hb)
                  clear fh_21
                  clear BB21
                  go_wp2_with fail
                  refine (PL.out _ (N.out.1.below BB22.out) (N.out.2.1.below BB22.out) (N.out.2.2.1.below BB22.out) (N.out.2.2.2.1.below BB22.out) (N.out.2.2.2.2.below BB22.out)).mono ?_
                  rintro e W23 ⟨r5, rfl, h5, b⟩
                  have BB24 := Lib.hid (bel2 BB22.out b)
                  have fh_24 := Lib.hid (FS.below fh_22.out b)
                  clear fh_22
                  clear BB22
                  have k5 := Lib.hid h5
                  clear h5 b PL
                  obtain ⟨A5, cap5', e5, -, -⟩ := PtS.parts k5.out
                  subst e5
                  go_wp2_with fail
                  refine (qPoints_same _ _ _ _ _ _ k5.out fh_24.out).mono ?_
                  rintro e W25 ⟨rfl, n, hn⟩
                  have b : Below W23.heap.size W23 W25 := by rw [hn]; exact belN (Below.refl _ _) n
                  clear hn
                  have BB26 := Lib.hid (bel2 BB24.out b)
                  have fh_26 := Lib.hid (FS.below fh_24.out b)
                  clear fh_24
                  have fk_26 := Lib.hid (FS.below k5.out b)
                  clear k5
                  clear BB24
                  clear b
                  have e1 := HN.out
                  clear HN
                  subst e1
                  go_wp2_with fail
                  go_meet
                  exact BB26.out
    case rest =>
    have BC := Lib.hid hcut
    clear hcut HF BB8 fl_8 fh_8 fu_8
    go_wp2_with fail
    refine (drawDrawIsPolygon_any _ _ _ _ (RB.below hR'.out BC.out) Hb1.out).mono ?_
    rintro e W9 ⟨gv, gl, rfl, hg, hn, b⟩
    have BB10 := Lib.hid (bel2 BC.out b)
    clear BC
    have kg := Lib.hid hg
    clear hg hn b
    go_wp2_with fail
    refine (drawIsPoint_any _ _ _ _ (RB.below hR'.out BB10.out) Hb1.out).mono ?_
    rintro e W11 ⟨p, rfl, b⟩
    have BB12 := Lib.hid (bel2 BB10.out b)
    have fg_12 := Lib.hid (FS.below kg.out b)
    clear kg
    clear BB10
    clear b
    obtain ⟨pa, pb⟩ := p
    have fx13 := Lib.hid (P2.new W11 (pa, pb) 30)
    have bx13 : Below W11.heap.size W11 (W11.alloc (.cells #[.int .i64 (pa), .int .i64 (pb)] 30)) := (Below.refl _ _).alloc (Nat.le_refl _) _
    have BB14 := Lib.hid (bel2 BB12.out bx13)
    have fg_14 := Lib.hid (FS.below fg_12.out bx13)
    clear fg_12
    clear BB12
    have yp := fx13.out
    obtain ⟨p0, p1⟩ := yp
    have pl := cell_lt p0
    go_wp2_with fail
    refine (drawParsePolygon_any _ _ _ _ (RB.below hR'.out BB14.out) Hb1.out).mono ?_
    rintro e W15 ⟨s, rfl, hs, b⟩
    clear p0 p1 pl
    have BB16 := Lib.hid (bel2 BB14.out b)
    have fg_16 := Lib.hid (FS.below fg_14.out b)
    clear fg_14
    have fp_16 := Lib.hid (P2.below fx13.out b)
    clear fx13
    clear BB14
    have HSZ := Lib.hid (show s.size ≤ 1000000000 by omega)
    clear hs b
    obtain ⟨q, hq⟩ : ∃ z, z = pypR s.data.toList := ⟨_, rfl⟩
    obtain ⟨sv, hsv⟩ : ∃ z, z = pypB s.data.toList := ⟨_, rfl⟩
    have P1 := Lib.hid (fun W (h1 : Neut W) (h2 : Names W) (h3 : Pows W) (h4 : Sents W) (h5 : MaxM W) => show Calls Tryz.prog 15 #[.string s] W fun e w' => GivesPtB sv q W e w' by rw [hq, hsv]; exact implParsePolygon_any s W HSZ.out h1 h2 h3 h4 h5)
    have Q1 := Lib.hid (fun W => show Calls Tryz.prog 19 #[.string s] W fun e w' => GivesPtB sv q W e w' by rw [hq, hsv]; exact specParsePolygon_any s W HSZ.out)
    clear hq hsv
    have yp := fp_16.out
    obtain ⟨p0, p1⟩ := yp
    have pl := cell_lt p0
    go_wp2_with fail
    refine (P1.out _ (N.out.1.below BB16.out) (N.out.2.1.below BB16.out) (N.out.2.2.1.below BB16.out) (N.out.2.2.2.1.below BB16.out) (N.out.2.2.2.2.below BB16.out)).mono ?_
    rintro e W17 ⟨r6, rfl, h6, b⟩
    clear p0 p1 pl
    have BB18 := Lib.hid (bel2 BB16.out b)
    have fg_18 := Lib.hid (FS.below fg_16.out b)
    clear fg_16
    have fp_18 := Lib.hid (P2.below fp_16.out b)
    clear fp_16
    clear BB16
    have k6 := Lib.hid h6
    clear h6 b
    have yp := fp_18.out
    obtain ⟨p0, p1⟩ := yp
    have pl := cell_lt p0
    go_wp2_with fail
    refine (Q1.out _).mono ?_
    rintro e W19 ⟨r7, rfl, h7, b⟩
    clear p0 p1 pl
    have BB20 := Lib.hid (bel2 BB18.out b)
    have fg_20 := Lib.hid (FS.below fg_18.out b)
    clear fg_18
    have fa_20 := Lib.hid (FS.below k6.out b)
    clear k6
    have fp_20 := Lib.hid (P2.below fp_18.out b)
    clear fp_18
    clear BB18
    have k7 := Lib.hid h7
    clear h7 b P1 Q1
    have yp := fp_20.out
    obtain ⟨p0, p1⟩ := yp
    have pl := cell_lt p0
    go_wp2_with fail
    refine (drawHasPoint_any _ _ _ _ (RB.below hR'.out BB20.out) Hb1.out).mono ?_
    rintro e W21 ⟨uv, ul, t, rfl, hu, hn, b⟩
    clear p0 p1 pl
    have BB22 := Lib.hid (bel2 BB20.out b)
    have fg_22 := Lib.hid (FS.below fg_20.out b)
    clear fg_20
    have fa_22 := Lib.hid (FS.below fa_20.out b)
    clear fa_20
    have fb_22 := Lib.hid (FS.below k7.out b)
    clear k7
    have fp_22 := Lib.hid (P2.below fp_20.out b)
    clear fp_20
    clear BB20
    have ku := Lib.hid hu
    clear hu hn b
    obtain ⟨in1, h1⟩ : ∃ z, z = hpR ul t := ⟨_, rfl⟩
    obtain ⟨in2, h2⟩ : ∃ z, z = hpB ul t := ⟨_, rfl⟩
    have T1 := Lib.hid (fun W B (hv : PtS W B uv ul) => show Calls Tryz.prog 9 #[uv, ptV t] W fun e w' => GivesBB in1 in2 W e w' by rw [h1, h2]; exact implHasPoint_any W B uv ul t hv)
    have T2 := Lib.hid (fun W B (hv : PtS W B uv ul) => show Calls Tryz.prog 21 #[uv, ptV t] W fun e w' => GivesBB in1 in2 W e w' by rw [h1, h2]; exact specHasPoint_any W B uv ul t hv)
    clear h1 h2
    obtain ⟨ta, tb⟩ := t
    have fx23 := Lib.hid (P2.new W21 (ta, tb) 30)
    have bx23 : Below W21.heap.size W21 (W21.alloc (.cells #[.int .i64 (ta), .int .i64 (tb)] 30)) := (Below.refl _ _).alloc (Nat.le_refl _) _
    have BB24 := Lib.hid (bel2 BB22.out bx23)
    have fg_24 := Lib.hid (FS.below fg_22.out bx23)
    clear fg_22
    have fa_24 := Lib.hid (FS.below fa_22.out bx23)
    clear fa_22
    have fb_24 := Lib.hid (FS.below fb_22.out bx23)
    clear fb_22
    have fu_24 := Lib.hid (FS.below ku.out bx23)
    clear ku
    have fp_24 := Lib.hid (P2.below fp_22.out bx23)
    clear fp_22
    clear BB22
    have yp := fp_24.out
    obtain ⟨p0, p1⟩ := yp
    have pl := cell_lt p0
    have yt := fx23.out
    obtain ⟨t0, t1⟩ := yt
    have tl := cell_lt t0
    go_wp2_with fail
    refine (T1.out _ _ fu_24.out).mono ?_
    rintro e W25 ⟨rfl, b⟩
    clear p0 p1 pl
    clear t0 t1 tl
    have BB26 := Lib.hid (bel2 BB24.out b)
    have fg_26 := Lib.hid (FS.below fg_24.out b)
    clear fg_24
    have fa_26 := Lib.hid (FS.below fa_24.out b)
    clear fa_24
    have fb_26 := Lib.hid (FS.below fb_24.out b)
    clear fb_24
    have fu_26 := Lib.hid (FS.below fu_24.out b)
    clear fu_24
    have fp_26 := Lib.hid (P2.below fp_24.out b)
    clear fp_24
    have ft_26 := Lib.hid (P2.below fx23.out b)
    clear fx23
    clear BB24
    clear b
    have yp := fp_26.out
    obtain ⟨p0, p1⟩ := yp
    have pl := cell_lt p0
    have yt := ft_26.out
    obtain ⟨t0, t1⟩ := yt
    have tl := cell_lt t0
    go_wp2_with fail
    refine (T2.out _ _ fu_26.out).mono ?_
    rintro e W27 ⟨rfl, b⟩
    clear p0 p1 pl
    clear t0 t1 tl
    have BB28 := Lib.hid (bel2 BB26.out b)
    have fg_28 := Lib.hid (FS.below fg_26.out b)
    clear fg_26
    have fa_28 := Lib.hid (FS.below fa_26.out b)
    clear fa_26
    have fb_28 := Lib.hid (FS.below fb_26.out b)
    clear fb_26
    have fu_28 := Lib.hid (FS.below fu_26.out b)
    clear fu_26
    have fp_28 := Lib.hid (P2.below fp_26.out b)
    clear fp_26
    have ft_28 := Lib.hid (P2.below ft_26.out b)
    clear ft_26
    clear BB26
    clear b T1 T2
    clear fu_28 ft_28
    obtain ⟨tg, htg⟩ : ∃ z, z = pgB gl := ⟨_, rfl⟩
    obtain ⟨tp, htp⟩ : ∃ z, z = ptG (pa, pb) := ⟨_, rfl⟩
    have J1 := Lib.hid (fun W (hW : Below W27.heap.size W27 W) => show Calls Tryz.prog 8 #[gv] W fun e w' => e = .returned (.bool tg) ∧ Below W.heap.size W w' by rw [htg]; exact implIsPolygon_any W _ gv gl (FS.below fg_28.out hW))
    have J2 := Lib.hid (fun W (hW : Below W27.heap.size W27 W) => show Calls Tryz.prog 22 #[gv] W fun e w' => e = .returned (.bool tg) ∧ Below W.heap.size W w' by rw [htg]; exact specIsPolygon_any W _ gv gl (FS.below fg_28.out hW))
    have J3 := Lib.hid (fun W => show Calls Tryz.prog 10 #[ptV (pa, pb)] W fun e w' => e = .returned (.bool tp) ∧ Gr W w' by rw [htp]; exact implIsPoint_any (pa, pb) W)
    have J4 := Lib.hid (fun W => show Calls Tryz.prog 23 #[ptV (pa, pb)] W fun e w' => e = .returned (.bool tp) ∧ Gr W w' by rw [htp]; exact specIsPoint_any (pa, pb) W)
    have J5 := Lib.hid (fun W (hW : Below W27.heap.size W27 W) => qPoints_same W _ _ r6 r7 q (FS.below fa_28.out hW) (FS.below fb_28.out hW))
    have HPX := fp_28
    clear htg htp
    obtain ⟨z, hz⟩ : ∃ z, z = W11.heap.size := ⟨_, rfl⟩
    have hS : S4P W27 W11.heap.size (pa, pb) W27 := S4P.of HPX.out (Below.refl _ _)
    clear z hz
    go_upto_region 42 with fail
    obtain ⟨c0, c1⟩ := HPX.out
    have cl := cell_lt c0
    go_region_held3 (fun w' => S4P W27 W11.heap.size (pa, pb) w') (repeat' (first | with_reducible assumption | with_reducible refine S4P.drew ?_ | with_reducible refine S4P.drewN ?_ _)) (first | (go_at_call 8; refine (J1.out _ (S4P.bel (b := W11.heap.size) (r := (pa, pb)) (by assumption))).mono ?_; rintro e x1 ⟨rfl, b1⟩; have s1 := S4P.call HPX.out (by assumption) b1) | (go_at_call 22; refine (J2.out _ (S4P.bel (b := W11.heap.size) (r := (pa, pb)) (by assumption))).mono ?_; rintro e x2 ⟨rfl, b2⟩; have s2 := S4P.call HPX.out (by assumption) b2) | (go_at_call 10; refine (J3.out _).mono ?_; rintro e x3 ⟨rfl, g3⟩; have s3 := S4P.call HPX.out (by assumption) g3.below) | (go_at_call 23; refine (J4.out _).mono ?_; rintro e x4 ⟨rfl, g4⟩; have s4 := S4P.call HPX.out (by assumption) g4.below) | (go_at_call 7; refine (J5.out _ (S4P.bel (b := W11.heap.size) (r := (pa, pb)) (by assumption))).mono ?_; rintro e x5 ⟨rfl, n5, rfl⟩) | (fail))
    all_goals
      have B2 := S4P.bel (b := W11.heap.size) (r := (pa, pb)) (by assumption)
      go_wp2
      go_ret
      exact ⟨rfl, bel2 BB28.out B2⟩
end Go.Proofs.YtiopinhdfoinoaaGreatDoor.fnHulls
