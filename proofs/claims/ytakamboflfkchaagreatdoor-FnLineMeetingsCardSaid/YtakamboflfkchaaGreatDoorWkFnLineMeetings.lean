/-
  For all drawn lines, they meet in a point on both, moved lines have moved centers, and texts are read back.
  No condition but that the tables and the sentinels of the program and of Go's library hold what the program's text lays there (the card ties them).
-/
import Derived.Test.YtakamboflfkchaaGreatDoorRows
import Derived.WalkKit
import Derived.ProofKit
import Derived.OpenShut
import Derived.ShutString
import Derived.Below
import Derived.Carry
import Derived.Lib.SmallJoins
import Derived.SizedLaws
import Derived.MakeChecks
import Derived.OpenVars
import Derived.LaidMore
import Derived.Stop.Joined
import Derived.Lib.LaidTab
import Derived.Test.YtakamboflfkchaaGreatDoorLnQ
import Derived.Test.YtakamboflfkchaaGreatDoorDrawN
import Derived.Test.YtakamboflfkchaaGreatDoorDrawO
import Derived.Deep.DeepCutAuto
namespace Go.Proofs.YtakamboflfkchaaGreatDoor.fnLineMeetings
set_option linter.unusedSimpArgs false
set_option linter.unusedVariables false
open Go.ChangeShapes Go.WideShapes Go.ChangeAt Go.RowKit
open Go.ChangeMaps (open_string shut_string)
set_option linter.unusedVariables false
/-- What the condition gives: the tables' cells. -/
theorem laid_of {W : World} (h : laidMetH Tryz.prog Rows.fnLineMeetingsRow.laid W) (hsh : W.ShapedOpen Tryz.prog) : Neut W ∧ Names W ∧ Pows W ∧ Sents W ∧ MaxM W := by
  rw [MakeChecks.laidMetH_plain _ _ _ (by kernel_rfl)] at h
  have h1 := laidMet.tail h
  have h2 := laidMet.tail h1
  have h3 := laidMet.tail h2
  have h4 := laidMet.tail h3
  have h5 := laidMet.tail h4
  have h6 := laidMet.tail h5
  have h7 := laidMet.tail h6
  have h8 := laidMet.tail h7
  exact ⟨neut_of_head h6, names_of_laid h7, pows_of_laid h2, ⟨syntax_of_laid h5, range_of_laid h4⟩, Tryz.laysM147.s1_3 W hsh⟩
theorem size_of_list (l : List UInt8) : (ByteArray.mk l.toArray).size = l.length := by show l.toArray.size = _; simp
set_option maxRecDepth 100000
set_option maxHeartbeats 8000000 in

theorem walk (a0 : Option Addr) (len0 cap0 : Nat) (z0 : List Int) (a1 : Option Addr) (len1 cap1 : Nat) (z1 : List Int) (w : World) (w0 : IsRow .u8 w a0 len0 cap0 z0) (rr0 : len0 ≤ 140737488355328) (w1 : IsRow .u8 w a1 len1 cap1 z1) (rr1 : len1 ≤ 140737488355328) (hN : Neut w ∧ Names w ∧ Pows w ∧ Sents w ∧ MaxM w) :
    Calls Tryz.prog 3 #[.slice a0 len0 cap0, .slice a1 len1 cap1] w fun e w' => e = .returned (.bool true) ∧ Below w.heap.size w w' := by
  have hl0 : len0 ≤ 9223372036854775807 := by
    rcases w0 with ⟨_, h, _⟩ | ⟨x, _, h1, h2, _⟩
    · omega
    · unfold maxLen at h2; omega
  have hl1 : len1 ≤ 9223372036854775807 := by
    rcases w1 with ⟨_, h, _⟩ | ⟨x, _, h1, h2, _⟩
    · omega
    · unfold maxLen at h2; omega
  have hR := Lib.hid (RB.of_row w0)
  have hR' := Lib.hid (RB.of_row w1)
  have N := Lib.hid hN
  clear w0 w1 hN
  by_cases hbig : 1048576 < len0 + len1
  · have hbig' : (1048576 : Int) < (len0 : Int) + len1 := by omega
    go_enter Tryz.func3, Tryz.ntmps3
    go_wp2
    go_ret
    exact ⟨rfl, Below.refl _ _⟩
  · have hb0 : len0 ≤ 1048576 := by omega
    have hb1 : len1 ≤ 1048576 := by omega
    have hbig' : ¬ (1048576 : Int) < (len0 : Int) + len1 := by omega
    have Hb0 := Lib.hid hb0
    have Hb1 := Lib.hid hb1
  
    go_enter Tryz.func3, Tryz.ntmps3
    go_wp2_with fail
    refine (drawMeetingPoint_any _ _ _ _ hR.out Hb0.out).mono ?_
    rintro e W1 ⟨l, m, rfl, ⟨hlw, hmw⟩, b0⟩
    have BB2 := Lib.hid (b0)
    have HLW := Lib.hid hlw
    have HMW := Lib.hid hmw
    clear hlw hmw b0
    have fx3 := Lib.hid (T3.new W1 l 24)
    have bx3 : Below W1.heap.size W1 (W1.alloc (.cells #[.int .i64 (l).1, .int .i64 (l).2.1, .int .i64 (l).2.2] 24)) := (gr1 _ _).below
    have BB4 := Lib.hid (bel2 BB2.out bx3)
    clear BB2
    have fx5 := Lib.hid (show T3 ((W1.alloc (.cells #[.int .i64 (l).1, .int .i64 (l).2.1, .int .i64 (l).2.2] 24)).alloc (.cells #[.int .i64 (m).1, .int .i64 (m).2.1, .int .i64 (m).2.2] 24)) (W1.heap.size + 1) m by have := T3.new (W1.alloc (.cells #[.int .i64 (l).1, .int .i64 (l).2.1, .int .i64 (l).2.2] 24)) m 24; rwa [World.size_alloc] at this)
    have bx5 : Below (W1.alloc (.cells #[.int .i64 (l).1, .int .i64 (l).2.1, .int .i64 (l).2.2] 24)).heap.size (W1.alloc (.cells #[.int .i64 (l).1, .int .i64 (l).2.1, .int .i64 (l).2.2] 24)) ((W1.alloc (.cells #[.int .i64 (l).1, .int .i64 (l).2.1, .int .i64 (l).2.2] 24)).alloc (.cells #[.int .i64 (m).1, .int .i64 (m).2.1, .int .i64 (m).2.2] 24)) := (gr1 _ _).below
    have BB6 := Lib.hid (bel2 BB4.out bx5)
    have fl_6 := Lib.hid (fx3.out.below bx5)
    clear fx3
    clear BB4
    obtain ⟨o, ho⟩ : ∃ z, z = mpB l m := ⟨_, rfl⟩
    obtain ⟨x, hx⟩ : ∃ z, z = mpXR l m := ⟨_, rfl⟩
    obtain ⟨y, hy⟩ : ∃ z, z = mpYR l m := ⟨_, rfl⟩
    obtain ⟨so, hso⟩ : ∃ z, z = smO l m := ⟨_, rfl⟩
    obtain ⟨sr, hsr⟩ : ∃ z, z = smR l m := ⟨_, rfl⟩
    obtain ⟨tx, htx⟩ : ∃ z, z = lnXR l := ⟨_, rfl⟩
    obtain ⟨lt, hlt⟩ : ∃ z, z = lnB l := ⟨_, rfl⟩
    obtain ⟨mt, hmt⟩ : ∃ z, z = lnB m := ⟨_, rfl⟩
    have HSO := Lib.hid (show so = (lt && mt) by rw [hso, hlt, hmt]; rfl)
    have HME := Lib.hid (show o = true → (lnA l x y = true ∧ lnOR l x y = true) ∧ lnA m x y = true ∧ lnOR m x y = true by rw [ho, hx, hy]; exact meet_both)
    have HBK := Lib.hid (show lt = true → lpB tx = true ∧ lpR tx = l ∧ tx.length ≤ 1000000 by
      rw [hlt, htx]
      intro h
      have h1 := lp_of h
      have h2 := lnX_len h
      rw [size_of_list] at h2
      rw [lnXR_yes h]
      exact ⟨h1.1, by rw [lpR_yes h1.1, h1.2], by omega⟩)
    have C1 := Lib.hid (fun W => show Calls Tryz.prog 5 #[tmV l, tmV m] W fun e w' => e = .returned (.tuple #[.int .i64 x, .int .i64 y, .bool o]) ∧ Gr W w' by rw [ho, hx, hy]; exact implMeetingPoint_any l m HLW.out HMW.out W)
    have C2 := Lib.hid (fun W => show Calls Tryz.prog 6 #[tmV l, tmV m] W fun e w' => e = .returned (.tuple #[.int .i64 x, .int .i64 y, .bool o]) ∧ Gr W w' by rw [ho, hx, hy]; exact specMeetingPoint_any l m W)
    have C3 := Lib.hid (fun W => show Calls Tryz.prog 7 #[tmV l, tmV m] W fun e w' => e = .returned (.tuple #[.bool sr, .bool so]) ∧ Gr W w' by rw [hsr, hso]; exact implSameLine_any l m HLW.out HMW.out W)
    have C4 := Lib.hid (fun W => show Calls Tryz.prog 8 #[tmV l, tmV m] W fun e w' => e = .returned (.tuple #[.bool sr, .bool so]) ∧ Gr W w' by rw [hsr, hso]; exact specSameLine_any l m W)
    have C5 := Lib.hid (fun W (h1 : Neut W) (h2 : Names W) (h3 : Pows W) => show Calls Tryz.prog 9 #[tmV l] W fun e w' => e = .returned (.tuple #[.string ⟨tx.toArray⟩, .bool lt]) ∧ Below W.heap.size W w' by rw [htx, hlt]; exact implLineText_any l HLW.out W h1 h2 h3)
    have C6 := Lib.hid (fun W => show Calls Tryz.prog 10 #[tmV l] W fun e w' => e = .returned (.tuple #[.string ⟨tx.toArray⟩, .bool lt]) ∧ Below W.heap.size W w' by rw [htx, hlt]; exact specLineText_any l W)
    have I1 := Lib.hid (fun W => show Calls Tryz.prog 11 #[tmV l] W fun e w' => e = .returned (.bool lt) ∧ Gr W w' by rw [hlt]; exact implIsLine_any l HLW.out W)
    have I2 := Lib.hid (fun W => show Calls Tryz.prog 11 #[tmV m] W fun e w' => e = .returned (.bool mt) ∧ Gr W w' by rw [hmt]; exact implIsLine_any m HMW.out W)
    have O1 := Lib.hid (fun W => implIsOnLine_any l x y HLW.out W)
    have O2 := Lib.hid (fun W => implIsOnLine_any m x y HMW.out W)
    obtain ⟨G, hG⟩ : ∃ G : ByteArray, G = ⟨tx.toArray⟩ := ⟨_, rfl⟩
    rw [← hG] at C5 C6
    have PL := Lib.hid (fun W (h : lt = true) (h1 : Neut W) (h2 : Names W) (h3 : Pows W) (h4 : Sents W) (h5 : MaxM W) => show Calls Tryz.prog 13 #[.string G] W fun e w' => e = .returned (.tuple #[tmV l, .bool true]) ∧ Below W.heap.size W w' by
      obtain ⟨p1, p2, p3⟩ := HBK.out h
      have := implParseLine_any ⟨tx.toArray⟩ W (by rw [size_of_list]; omega) h1 h2 h3 h4 h5
      unfold GivesLB at this
      rw [show (ByteArray.mk tx.toArray).data.toList = tx by simp, p1, p2] at this
      rw [hG]
      exact this)
    clear ho hx hy hso hsr htx hlt hmt hG
    obtain ⟨la, lb, lc⟩ := l
    obtain ⟨ma, mb, mc⟩ := m
    have yl := fl_6.out
    obtain ⟨l0, l1, l2⟩ := yl
    have ll := cell_lt l0
    have ym := fx5.out
    obtain ⟨m0, m1, m2⟩ := ym
    have ml := cell_lt m0
    go_wp2_with fail
    refine (C1.out _).mono ?_
    rintro e W7 ⟨rfl, g⟩
    clear l0 l1 l2 ll
    clear m0 m1 m2 ml
    have BB8 := Lib.hid (bel2 BB6.out g.below)
    have fl_8 := Lib.hid (fl_6.out.below g.below)
    clear fl_6
    have fm_8 := Lib.hid (fx5.out.below g.below)
    clear fx5
    clear BB6
    clear g
    have yl := fl_8.out
    obtain ⟨l0, l1, l2⟩ := yl
    have ll := cell_lt l0
    have ym := fm_8.out
    obtain ⟨m0, m1, m2⟩ := ym
    have ml := cell_lt m0
    go_wp2_with fail
    refine (C2.out _).mono ?_
    rintro e W9 ⟨rfl, g⟩
    clear l0 l1 l2 ll
    clear m0 m1 m2 ml
    have BB10 := Lib.hid (bel2 BB8.out g.below)
    have fl_10 := Lib.hid (fl_8.out.below g.below)
    clear fl_8
    have fm_10 := Lib.hid (fm_8.out.below g.below)
    clear fm_8
    clear BB8
    clear g
    have yl := fl_10.out
    obtain ⟨l0, l1, l2⟩ := yl
    have ll := cell_lt l0
    have ym := fm_10.out
    obtain ⟨m0, m1, m2⟩ := ym
    have ml := cell_lt m0
    go_wp2_with fail
    refine (C3.out _).mono ?_
    rintro e W11 ⟨rfl, g⟩
    clear l0 l1 l2 ll
    clear m0 m1 m2 ml
    have BB12 := Lib.hid (bel2 BB10.out g.below)
    have fl_12 := Lib.hid (fl_10.out.below g.below)
    clear fl_10
    have fm_12 := Lib.hid (fm_10.out.below g.below)
    clear fm_10
    clear BB10
    clear g
    have yl := fl_12.out
    obtain ⟨l0, l1, l2⟩ := yl
    have ll := cell_lt l0
    have ym := fm_12.out
    obtain ⟨m0, m1, m2⟩ := ym
    have ml := cell_lt m0
    go_wp2_with fail
    refine (C4.out _).mono ?_
    rintro e W13 ⟨rfl, g⟩
    clear l0 l1 l2 ll
    clear m0 m1 m2 ml
    have BB14 := Lib.hid (bel2 BB12.out g.below)
    have fl_14 := Lib.hid (fl_12.out.below g.below)
    clear fl_12
    have fm_14 := Lib.hid (fm_12.out.below g.below)
    clear fm_12
    clear BB12
    clear g
    have yl := fl_14.out
    obtain ⟨l0, l1, l2⟩ := yl
    have ll := cell_lt l0
    have ym := fm_14.out
    obtain ⟨m0, m1, m2⟩ := ym
    have ml := cell_lt m0
    go_wp2_with fail
    refine (C5.out _ (N.out.1.below BB14.out) (N.out.2.1.below BB14.out) (N.out.2.2.1.below BB14.out)).mono ?_
    rintro e W15 ⟨rfl, b⟩
    clear l0 l1 l2 ll
    clear m0 m1 m2 ml
    have BB16 := Lib.hid (bel2 BB14.out b)
    have fl_16 := Lib.hid (fl_14.out.below b)
    clear fl_14
    have fm_16 := Lib.hid (fm_14.out.below b)
    clear fm_14
    clear BB14
    clear b
    have yl := fl_16.out
    obtain ⟨l0, l1, l2⟩ := yl
    have ll := cell_lt l0
    have ym := fm_16.out
    obtain ⟨m0, m1, m2⟩ := ym
    have ml := cell_lt m0
    go_wp2_with fail
    refine (C6.out _).mono ?_
    rintro e W17 ⟨rfl, b⟩
    clear l0 l1 l2 ll
    clear m0 m1 m2 ml
    have BB18 := Lib.hid (bel2 BB16.out b)
    have fl_18 := Lib.hid (fl_16.out.below b)
    clear fl_16
    have fm_18 := Lib.hid (fm_16.out.below b)
    clear fm_16
    clear BB16
    clear b
    clear C1 C2 C3 C4 C5 C6
    go_upto_region 10 with fail
    go_cut [140] (fun r wx => r = .bool false ∧ Below w.heap.size w wx ∧ T3 wx W1.heap.size (la, lb, lc) ∧ T3 wx (W1.heap.size + 1) (ma, mb, mc))
    case first =>
      as_aux_lemma =>
        have HS := HSO.out
        clear HSO
        cases lt
        · have hs : so = false := by rw [HS]; rfl
          subst hs
          clear HS
          have yl := fl_18.out
          obtain ⟨l0, l1, l2⟩ := yl
          have ll := cell_lt l0
          have ym := fm_18.out
          obtain ⟨m0, m1, m2⟩ := ym
          have ml := cell_lt m0
          go_wp2_with fail
          refine (I1.out _).mono ?_
          rintro e W19 ⟨rfl, g⟩
          clear l0 l1 l2 ll
          clear m0 m1 m2 ml
          have BB20 := Lib.hid (bel2 BB18.out g.below)
          have fl_20 := Lib.hid (fl_18.out.below g.below)
          clear fl_18
          have fm_20 := Lib.hid (fm_18.out.below g.below)
          clear fm_18
          clear BB18
          clear g
          have yl := fl_20.out
          obtain ⟨l0, l1, l2⟩ := yl
          have ll := cell_lt l0
          have ym := fm_20.out
          obtain ⟨m0, m1, m2⟩ := ym
          have ml := cell_lt m0
          go_wp2_with fail
          refine (I1.out _).mono ?_
          rintro e W21 ⟨rfl, g⟩
          clear l0 l1 l2 ll
          clear m0 m1 m2 ml
          have BB22 := Lib.hid (bel2 BB20.out g.below)
          have fl_22 := Lib.hid (fl_20.out.below g.below)
          clear fl_20
          have fm_22 := Lib.hid (fm_20.out.below g.below)
          clear fm_20
          clear BB20
          clear g
          go_wp2_with fail
          go_meet
          exact ⟨rfl, BB22.out, fl_22.out, fm_22.out⟩
        · have hs : so = mt := by rw [HS]; rfl
          subst hs
          clear HS
          have yl := fl_18.out
          obtain ⟨l0, l1, l2⟩ := yl
          have ll := cell_lt l0
          have ym := fm_18.out
          obtain ⟨m0, m1, m2⟩ := ym
          have ml := cell_lt m0
          go_wp2_with fail
          refine (I1.out _).mono ?_
          rintro e W19 ⟨rfl, g⟩
          clear l0 l1 l2 ll
          clear m0 m1 m2 ml
          have BB20 := Lib.hid (bel2 BB18.out g.below)
          have fl_20 := Lib.hid (fl_18.out.below g.below)
          clear fl_18
          have fm_20 := Lib.hid (fm_18.out.below g.below)
          clear fm_18
          clear BB18
          clear g
          have yl := fl_20.out
          obtain ⟨l0, l1, l2⟩ := yl
          have ll := cell_lt l0
          have ym := fm_20.out
          obtain ⟨m0, m1, m2⟩ := ym
          have ml := cell_lt m0
          go_wp2_with fail
          refine (I2.out _).mono ?_
          rintro e W21 ⟨rfl, g⟩
          clear l0 l1 l2 ll
          clear m0 m1 m2 ml
          have BB22 := Lib.hid (bel2 BB20.out g.below)
          have fl_22 := Lib.hid (fl_20.out.below g.below)
          clear fl_20
          have fm_22 := Lib.hid (fm_20.out.below g.below)
          clear fm_20
          clear BB20
          clear g
          have yl := fl_22.out
          obtain ⟨l0, l1, l2⟩ := yl
          have ll := cell_lt l0
          have ym := fm_22.out
          obtain ⟨m0, m1, m2⟩ := ym
          have ml := cell_lt m0
          go_wp2_with fail
          refine (I1.out _).mono ?_
          rintro e W23 ⟨rfl, g⟩
          clear l0 l1 l2 ll
          clear m0 m1 m2 ml
          have BB24 := Lib.hid (bel2 BB22.out g.below)
          have fl_24 := Lib.hid (fl_22.out.below g.below)
          clear fl_22
          have fm_24 := Lib.hid (fm_22.out.below g.below)
          clear fm_22
          clear BB22
          clear g
          go_wp2_with fail
          go_meet
          exact ⟨rfl, BB24.out, fl_24.out, fm_24.out⟩
    case rest =>
    obtain ⟨hcr, bx, tl, tm⟩ := hcut
    subst hcr
    have BA := Lib.hid bx
    have FL := Lib.hid tl
    have FM := Lib.hid tm
    clear bx tl tm
    clear BB18 fl_18 fm_18 I1 I2 HSO
    go_upto_if 141 with fail
    go_cut [141] (fun _ wx => Below w.heap.size w wx ∧ T3 wx W1.heap.size (la, lb, lc))
    case first =>
      as_aux_lemma =>
        cases o
        · go_wp2_with fail
          go_meet
          exact ⟨BA.out, FL.out⟩
        · obtain ⟨⟨t1, t2⟩, t3, t4⟩ := HME.out (by first | rfl | trivial)
          rw [t1, t2] at O1
          rw [t3, t4] at O2
          clear t1 t2 t3 t4 HME
          have yl := FL.out
          obtain ⟨l0, l1, l2⟩ := yl
          have ll := cell_lt l0
          have ym := FM.out
          obtain ⟨m0, m1, m2⟩ := ym
          have ml := cell_lt m0
          go_wp2_with fail
          refine (O1.out _).mono ?_
          rintro e W19 ⟨rfl, b⟩
          clear l0 l1 l2 ll
          clear m0 m1 m2 ml
          have BB20 := Lib.hid (bel2 BA.out b)
          have fl_20 := Lib.hid (FL.out.below b)
          clear FL
          have fm_20 := Lib.hid (FM.out.below b)
          clear FM
          clear BA
          clear b
          have yl := fl_20.out
          obtain ⟨l0, l1, l2⟩ := yl
          have ll := cell_lt l0
          have ym := fm_20.out
          obtain ⟨m0, m1, m2⟩ := ym
          have ml := cell_lt m0
          go_wp2_with fail
          refine (O2.out _).mono ?_
          rintro e W21 ⟨rfl, b⟩
          clear l0 l1 l2 ll
          clear m0 m1 m2 ml
          have BB22 := Lib.hid (bel2 BB20.out b)
          have fl_22 := Lib.hid (fl_20.out.below b)
          clear fl_20
          have fm_22 := Lib.hid (fm_20.out.below b)
          clear fm_20
          clear BB20
          clear b
          go_wp2_with fail
          go_meet
          exact ⟨BB22.out, fl_22.out⟩
    case rest =>
    obtain ⟨bx, tl⟩ := hcut
    have BB := Lib.hid bx
    have GL := Lib.hid tl
    clear bx tl BA FL FM O1 O2 HME
    go_upto_if 170 with fail
    go_cut [170] (fun _ wx => Below w.heap.size w wx)
    case first =>
      as_aux_lemma =>
        cases lt
        · go_wp2_with fail
          go_meet
          exact BB.out
        · have yl := GL.out
          obtain ⟨l0, l1, l2⟩ := yl
          have ll := cell_lt l0
          go_wp2_with fail
          refine (PL.out _ (by first | rfl | trivial) (N.out.1.below BB.out) (N.out.2.1.below BB.out) (N.out.2.2.1.below BB.out) (N.out.2.2.2.1.below BB.out) (N.out.2.2.2.2.below BB.out)).mono ?_
          rintro e W19 ⟨rfl, b⟩
          clear l0 l1 l2 ll
          have BB20 := Lib.hid (bel2 BB.out b)
          have fl_20 := Lib.hid (GL.out.below b)
          clear GL
          clear BB
          clear b
          have fx21 := Lib.hid (T3.new W19 ((la, lb, lc) : Tm) 24)
          have bx21 : Below W19.heap.size W19 (W19.alloc (.cells #[.int .i64 (((la, lb, lc) : Tm)).1, .int .i64 (((la, lb, lc) : Tm)).2.1, .int .i64 (((la, lb, lc) : Tm)).2.2] 24)) := (gr1 _ _).below
          have BB22 := Lib.hid (bel2 BB20.out bx21)
          have fl_22 := Lib.hid (fl_20.out.below bx21)
          clear fl_20
          clear BB20
          have yl := fl_22.out
          obtain ⟨l0, l1, l2⟩ := yl
          have ll := cell_lt l0
          have yp := fx21.out
          obtain ⟨p0, p1, p2⟩ := yp
          have pl := cell_lt p0
          go_wp2_with fail
          go_meet
          exact BB22.out
    case rest =>
    have BC := Lib.hid hcut
    clear hcut BB GL PL HBK
    go_wp2_with fail
    refine (drawMoveLine_any _ _ _ _ (RB.below hR'.out BC.out) Hb1.out).mono ?_
    rintro e W19 ⟨t, dx, dy, rfl, ⟨ht, hdx, hdy⟩, b⟩
    have BB20 := Lib.hid (bel2 BC.out b)
    clear BC
    have HT := Lib.hid ht
    clear ht hdx hdy b
    have fx21 := Lib.hid (T3.new W19 t 24)
    have bx21 : Below W19.heap.size W19 (W19.alloc (.cells #[.int .i64 (t).1, .int .i64 (t).2.1, .int .i64 (t).2.2] 24)) := (gr1 _ _).below
    have BB22 := Lib.hid (bel2 BB20.out bx21)
    clear BB20
    obtain ⟨u, hu⟩ : ∃ z, z = mvTR t dx dy := ⟨_, rfl⟩
    obtain ⟨five, h5⟩ : ∃ z, z = mvTB t dx dy := ⟨_, rfl⟩
    have HUW := Lib.hid (show wfT u by rw [hu]; exact mvTR_wf t dx dy)
    have HMC := Lib.hid (show five = true → ceB t = true → ceB u = true → ceX u = ceX t + dx ∧ ceY u = ceY t + dy by rw [h5, hu]; exact moved_center)
    have M1 := Lib.hid (fun W => show Calls Tryz.prog 15 #[tmV t, .int .i64 dx, .int .i64 dy] W fun e w' => GivesL u five W e w' by rw [hu, h5]; exact implMoveLine_any t dx dy HT.out W)
    have M2 := Lib.hid (fun W => show Calls Tryz.prog 16 #[tmV t, .int .i64 dx, .int .i64 dy] W fun e w' => GivesL u five W e w' by rw [hu, h5]; exact specMoveLine_any t dx dy W)
    have E1 := Lib.hid (fun W => implCenterOf_any t HT.out W)
    have E2 := Lib.hid (fun W => implCenterOf_any u HUW.out W)
    have HCT := Lib.hid (show ceB u = true → (-1000000 ≤ ceX u ∧ ceX u ≤ 1000000) ∧ (-1000000 ≤ ceY u ∧ ceY u ≤ 1000000) by
      intro h
      obtain ⟨e1, e2⟩ := ceXY_yes h
      have hb : lnB u = true ∧ lnP (u.2.2 - u.1) (u.2.2 - u.2.1) = true := by unfold ceB at h; simpa only [Bool.and_eq_true] using h
      have hp := lnP_parts hb.2
      rw [e1, e2]
      exact hp)
    obtain ⟨c1, hc1⟩ : ∃ z, z = ceX t := ⟨_, rfl⟩
    obtain ⟨c2, hc2⟩ : ∃ z, z = ceY t := ⟨_, rfl⟩
    obtain ⟨c3, hc3⟩ : ∃ z, z = ceB t := ⟨_, rfl⟩
    obtain ⟨d1, hd1⟩ : ∃ z, z = ceX u := ⟨_, rfl⟩
    obtain ⟨d2, hd2⟩ : ∃ z, z = ceY u := ⟨_, rfl⟩
    obtain ⟨d3, hd3⟩ : ∃ z, z = ceB u := ⟨_, rfl⟩
    rw [← hc1, ← hc2, ← hc3] at E1
    rw [← hd1, ← hd2, ← hd3] at E2
    rw [← hc1, ← hc2, ← hc3, ← hd1, ← hd2, ← hd3] at HMC
    rw [← hd1, ← hd2, ← hd3] at HCT
    clear hu h5 hc1 hc2 hc3 hd1 hd2 hd3
    obtain ⟨ta, tb, tc⟩ := t
    obtain ⟨ua, ub, uc⟩ := u
    have yt := fx21.out
    obtain ⟨t0, t1, t2⟩ := yt
    have tl := cell_lt t0
    go_wp2_with fail
    refine (M1.out _).mono ?_
    rintro e W23 ⟨rfl, g⟩
    clear t0 t1 t2 tl
    have BB24 := Lib.hid (bel2 BB22.out g.below)
    have ft_24 := Lib.hid (fx21.out.below g.below)
    clear fx21
    clear BB22
    clear g
    have fx25 := Lib.hid (T3.new W23 ((ua, ub, uc) : Tm) 24)
    have bx25 : Below W23.heap.size W23 (W23.alloc (.cells #[.int .i64 (((ua, ub, uc) : Tm)).1, .int .i64 (((ua, ub, uc) : Tm)).2.1, .int .i64 (((ua, ub, uc) : Tm)).2.2] 24)) := (gr1 _ _).below
    have BB26 := Lib.hid (bel2 BB24.out bx25)
    have ft_26 := Lib.hid (ft_24.out.below bx25)
    clear ft_24
    clear BB24
    have yt := ft_26.out
    obtain ⟨t0, t1, t2⟩ := yt
    have tl := cell_lt t0
    have yu := fx25.out
    obtain ⟨u0, u1, u2⟩ := yu
    have ul := cell_lt u0
    go_wp2_with fail
    refine (M2.out _).mono ?_
    rintro e W27 ⟨rfl, g⟩
    clear t0 t1 t2 tl
    clear u0 u1 u2 ul
    have BB28 := Lib.hid (bel2 BB26.out g.below)
    have ft_28 := Lib.hid (ft_26.out.below g.below)
    clear ft_26
    have fu_28 := Lib.hid (fx25.out.below g.below)
    clear fx25
    clear BB26
    clear g
    have fx29 := Lib.hid (T3.new W27 ((ua, ub, uc) : Tm) 24)
    have bx29 : Below W27.heap.size W27 (W27.alloc (.cells #[.int .i64 (((ua, ub, uc) : Tm)).1, .int .i64 (((ua, ub, uc) : Tm)).2.1, .int .i64 (((ua, ub, uc) : Tm)).2.2] 24)) := (gr1 _ _).below
    have BB30 := Lib.hid (bel2 BB28.out bx29)
    have ft_30 := Lib.hid (ft_28.out.below bx29)
    clear ft_28
    have fu_30 := Lib.hid (fu_28.out.below bx29)
    clear fu_28
    clear BB28
    have yt := ft_30.out
    obtain ⟨t0, t1, t2⟩ := yt
    have tl := cell_lt t0
    have yu := fu_30.out
    obtain ⟨u0, u1, u2⟩ := yu
    have ul := cell_lt u0
    have yv := fx29.out
    obtain ⟨v0, v1, v2⟩ := yv
    have vl := cell_lt v0
    go_wp2_with fail
    refine (drawParseLine_any _ _ _ _ (RB.below hR'.out BB30.out) Hb1.out).mono ?_
    rintro e W31 ⟨s, rfl, hs, b⟩
    clear t0 t1 t2 tl
    clear u0 u1 u2 ul
    clear v0 v1 v2 vl
    have BB32 := Lib.hid (bel2 BB30.out b)
    have ft_32 := Lib.hid (ft_30.out.below b)
    clear ft_30
    have fu_32 := Lib.hid (fu_30.out.below b)
    clear fu_30
    have fv_32 := Lib.hid (fx29.out.below b)
    clear fx29
    clear BB30
    have HSZ := Lib.hid (show s.size ≤ 1000000000 by omega)
    clear hs b
    obtain ⟨q, hq⟩ : ∃ z, z = lpR s.data.toList := ⟨_, rfl⟩
    obtain ⟨sv, hsv⟩ : ∃ z, z = lpB s.data.toList := ⟨_, rfl⟩
    have P1 := Lib.hid (fun W (h1 : Neut W) (h2 : Names W) (h3 : Pows W) (h4 : Sents W) (h5 : MaxM W) => show Calls Tryz.prog 13 #[.string s] W fun e w' => GivesLB q sv W e w' by rw [hq, hsv]; exact implParseLine_any s W HSZ.out h1 h2 h3 h4 h5)
    have P2 := Lib.hid (fun W => show Calls Tryz.prog 18 #[.string s] W fun e w' => GivesLB q sv W e w' by rw [hq, hsv]; exact specParseLine_any s W HSZ.out)
    clear hq hsv
    obtain ⟨qa, qb, qc⟩ := q
    have yt := ft_32.out
    obtain ⟨t0, t1, t2⟩ := yt
    have tl := cell_lt t0
    have yu := fu_32.out
    obtain ⟨u0, u1, u2⟩ := yu
    have ul := cell_lt u0
    have yv := fv_32.out
    obtain ⟨v0, v1, v2⟩ := yv
    have vl := cell_lt v0
    go_wp2_with fail
    refine (P1.out _ (N.out.1.below BB32.out) (N.out.2.1.below BB32.out) (N.out.2.2.1.below BB32.out) (N.out.2.2.2.1.below BB32.out) (N.out.2.2.2.2.below BB32.out)).mono ?_
    rintro e W33 ⟨rfl, b⟩
    clear t0 t1 t2 tl
    clear u0 u1 u2 ul
    clear v0 v1 v2 vl
    have BB34 := Lib.hid (bel2 BB32.out b)
    have ft_34 := Lib.hid (ft_32.out.below b)
    clear ft_32
    have fu_34 := Lib.hid (fu_32.out.below b)
    clear fu_32
    have fv_34 := Lib.hid (fv_32.out.below b)
    clear fv_32
    clear BB32
    clear b
    have fx35 := Lib.hid (T3.new W33 ((qa, qb, qc) : Tm) 24)
    have bx35 : Below W33.heap.size W33 (W33.alloc (.cells #[.int .i64 (((qa, qb, qc) : Tm)).1, .int .i64 (((qa, qb, qc) : Tm)).2.1, .int .i64 (((qa, qb, qc) : Tm)).2.2] 24)) := (gr1 _ _).below
    have BB36 := Lib.hid (bel2 BB34.out bx35)
    have ft_36 := Lib.hid (ft_34.out.below bx35)
    clear ft_34
    have fu_36 := Lib.hid (fu_34.out.below bx35)
    clear fu_34
    have fv_36 := Lib.hid (fv_34.out.below bx35)
    clear fv_34
    clear BB34
    have yt := ft_36.out
    obtain ⟨t0, t1, t2⟩ := yt
    have tl := cell_lt t0
    have yu := fu_36.out
    obtain ⟨u0, u1, u2⟩ := yu
    have ul := cell_lt u0
    have yv := fv_36.out
    obtain ⟨v0, v1, v2⟩ := yv
    have vl := cell_lt v0
    have yq := fx35.out
    obtain ⟨q0, q1, q2⟩ := yq
    have ql := cell_lt q0
    go_wp2_with fail
    refine (P2.out _).mono ?_
    rintro e W37 ⟨rfl, b⟩
    clear t0 t1 t2 tl
    clear u0 u1 u2 ul
    clear v0 v1 v2 vl
    clear q0 q1 q2 ql
    have BB38 := Lib.hid (bel2 BB36.out b)
    have ft_38 := Lib.hid (ft_36.out.below b)
    clear ft_36
    have fu_38 := Lib.hid (fu_36.out.below b)
    clear fu_36
    have fv_38 := Lib.hid (fv_36.out.below b)
    clear fv_36
    have fq_38 := Lib.hid (fx35.out.below b)
    clear fx35
    clear BB36
    clear b
    have fx39 := Lib.hid (T3.new W37 ((qa, qb, qc) : Tm) 24)
    have bx39 : Below W37.heap.size W37 (W37.alloc (.cells #[.int .i64 (((qa, qb, qc) : Tm)).1, .int .i64 (((qa, qb, qc) : Tm)).2.1, .int .i64 (((qa, qb, qc) : Tm)).2.2] 24)) := (gr1 _ _).below
    have BB40 := Lib.hid (bel2 BB38.out bx39)
    have ft_40 := Lib.hid (ft_38.out.below bx39)
    clear ft_38
    have fu_40 := Lib.hid (fu_38.out.below bx39)
    clear fu_38
    have fv_40 := Lib.hid (fv_38.out.below bx39)
    clear fv_38
    have fq_40 := Lib.hid (fq_38.out.below bx39)
    clear fq_38
    clear BB38
    cases five
    · clear HMC HCT E1 E2 M1 M2 P1 P2
      have yt := ft_40.out
      obtain ⟨t0, t1, t2⟩ := yt
      have tl := cell_lt t0
      have yu := fu_40.out
      obtain ⟨u0, u1, u2⟩ := yu
      have ul := cell_lt u0
      have yv := fv_40.out
      obtain ⟨v0, v1, v2⟩ := yv
      have vl := cell_lt v0
      have yq := fq_40.out
      obtain ⟨q0, q1, q2⟩ := yq
      have ql := cell_lt q0
      have yr := fx39.out
      obtain ⟨r0, r1, r2⟩ := yr
      have rl := cell_lt r0
      go_wp2_with fail
      go_ret
      exact ⟨rfl, BB40.out⟩
    · clear M1 M2 P1 P2
      have yt := ft_40.out
      obtain ⟨t0, t1, t2⟩ := yt
      have tl := cell_lt t0
      have yu := fu_40.out
      obtain ⟨u0, u1, u2⟩ := yu
      have ul := cell_lt u0
      have yv := fv_40.out
      obtain ⟨v0, v1, v2⟩ := yv
      have vl := cell_lt v0
      have yq := fq_40.out
      obtain ⟨q0, q1, q2⟩ := yq
      have ql := cell_lt q0
      have yr := fx39.out
      obtain ⟨r0, r1, r2⟩ := yr
      have rl := cell_lt r0
      go_wp2_with fail
      refine (E1.out _).mono ?_
      rintro e W41 ⟨rfl, g⟩
      clear t0 t1 t2 tl
      clear u0 u1 u2 ul
      clear v0 v1 v2 vl
      clear q0 q1 q2 ql
      clear r0 r1 r2 rl
      have BB42 := Lib.hid (bel2 BB40.out g.below)
      have ft_42 := Lib.hid (ft_40.out.below g.below)
      clear ft_40
      have fu_42 := Lib.hid (fu_40.out.below g.below)
      clear fu_40
      have fv_42 := Lib.hid (fv_40.out.below g.below)
      clear fv_40
      have fq_42 := Lib.hid (fq_40.out.below g.below)
      clear fq_40
      have fr_42 := Lib.hid (fx39.out.below g.below)
      clear fx39
      clear BB40
      clear g
      have yt := ft_42.out
      obtain ⟨t0, t1, t2⟩ := yt
      have tl := cell_lt t0
      have yu := fu_42.out
      obtain ⟨u0, u1, u2⟩ := yu
      have ul := cell_lt u0
      have yv := fv_42.out
      obtain ⟨v0, v1, v2⟩ := yv
      have vl := cell_lt v0
      have yq := fq_42.out
      obtain ⟨q0, q1, q2⟩ := yq
      have ql := cell_lt q0
      have yr := fr_42.out
      obtain ⟨r0, r1, r2⟩ := yr
      have rl := cell_lt r0
      go_wp2_with fail
      refine (E2.out _).mono ?_
      rintro e W43 ⟨rfl, g⟩
      clear t0 t1 t2 tl
      clear u0 u1 u2 ul
      clear v0 v1 v2 vl
      clear q0 q1 q2 ql
      clear r0 r1 r2 rl
      have BB44 := Lib.hid (bel2 BB42.out g.below)
      have ft_44 := Lib.hid (ft_42.out.below g.below)
      clear ft_42
      have fu_44 := Lib.hid (fu_42.out.below g.below)
      clear fu_42
      have fv_44 := Lib.hid (fv_42.out.below g.below)
      clear fv_42
      have fq_44 := Lib.hid (fq_42.out.below g.below)
      clear fq_42
      have fr_44 := Lib.hid (fr_42.out.below g.below)
      clear fr_42
      clear BB42
      clear g
      clear E1 E2
      cases c3
      · clear HMC HCT
        go_wp2
        go_ret
        exact ⟨rfl, BB44.out⟩
      · cases d3
        · clear HMC HCT
          go_wp2
          go_ret
          exact ⟨rfl, BB44.out⟩
        · obtain ⟨e1, e2⟩ := HMC.out (by first | rfl | trivial) (by first | rfl | trivial) (by first | rfl | trivial)
          have hct := HCT.out (by first | rfl | trivial)
          have v1 : IntKind.i64.wrap (c1 + dx) = d1 := by rw [← e1]; exact IntWalk.i64_in _ (by omega)
          have v2 : IntKind.i64.wrap (c2 + dy) = d2 := by rw [← e2]; exact IntWalk.i64_in _ (by omega)
          clear e1 e2 hct HMC HCT
          go_wp2
          go_ret
          exact ⟨rfl, BB44.out⟩
end Go.Proofs.YtakamboflfkchaaGreatDoor.fnLineMeetings
