/-
  For all drawn polynomials, roots go up, make up the difference of the last and the first corner, and tell the value.
  No condition but that the tables of the program and of Go's library hold what the program's text lays there (the card ties them).
-/
import Derived.Test.YtklcildhfcomnaaGreatDoorRows
import Derived.WalkKit
import Derived.ProofKit
import Derived.OpenShut
import Derived.ShutString
import Derived.Below
import Derived.Carry
import Derived.Lib.SmallJoins
import Derived.SizedLaws
import Derived.MakeChecks
import Derived.OpenVars
import Derived.LaidMore
import Derived.Stop.Joined
import Derived.Lib.LaidTab
import Derived.Test.YtklcildhfcomnaaGreatDoorRootD
import Derived.Test.YtklcildhfcomnaaGreatDoorRootT
import Derived.Test.YtklcildhfcomnaaGreatDoorRootsB
import Derived.Test.YtklcildhfcomnaaGreatDoorValueD
import Derived.Test.YtklcildhfcomnaaGreatDoorPolyB
import Derived.Test.YtklcildhfcomnaaGreatDoorDrawP
import Derived.Test.YtklcildhfcomnaaGreatDoorDrawR
import Derived.Test.YtklcildhfcomnaaGreatDoorQR
import Derived.Deep.DeepCutAuto
namespace Go.Proofs.YtklcildhfcomnaaGreatDoor.fnRoots
set_option linter.unusedSimpArgs false
set_option linter.unusedVariables false
open Go.ChangeShapes Go.WideShapes Go.ChangeAt Go.RowKit
open Go.ChangeMaps (open_string shut_string)
set_option linter.unusedVariables false
/-- What the condition gives: the tables' cells. -/
theorem laid_of {W : World} (h : laidMetH Tryz.prog Rows.fnRootsRow.laid W) : Neut W ∧ Pows W := by
  rw [MakeChecks.laidMetH_plain _ _ _ (by kernel_rfl)] at h
  have h1 := laidMet.tail h
  have h2 := laidMet.tail h1
  have h3 := laidMet.tail h2
  exact ⟨neut_of_head h3, pows_of_laid h2⟩
theorem RS.below {w w' : World} {B : Nat} {v : Value} {rs : List Rt} (h : RS w B v rs) (hb : Below w.heap.size w w') : RS w' B v rs := FS.below h hb
theorem RS.at {w : World} {B n cap : Nat} {A : Option Addr} {rs : List Rt} (h : RS w B (.slice A n cap) rs) : ∀ k, k < rs.length → ∃ g, A = some ⟨g, 0, none⟩ ∧ w.cell? ⟨g, k * 3, none⟩ = some (.int .i64 (rd rs k).1) ∧ w.cell? ⟨g, k * 3 + 1, none⟩ = some (.int .i64 (rd rs k).2.1) ∧ w.cell? ⟨g, k * 3 + 2, none⟩ = some (.int .i64 (rd rs k).2.2) := by
  obtain ⟨A', cap', he, -, hp⟩ := RS.parts h
  cases he
  exact hp
theorem IS.at {w : World} {B n cap : Nat} {A : Option Addr} {zs : List Int} (h : IS w B (.slice A n cap) zs) : ∀ k, k < zs.length → ∃ g, A = some ⟨g, 0, none⟩ ∧ w.cell? ⟨g, k, none⟩ = some (.int .i64 (gd zs k)) := by
  obtain ⟨A', cap', he, -, hp⟩ := h.parts
  cases he
  exact hp
theorem times_all {zs : List Int} (h : poB zs = true) : ∀ k, k < (rootsL zs).length → (tmB zs (rd (rootsL zs) k).1 (rd (rootsL zs) k).2.1 = true ∧ tmR zs (rd (rootsL zs) k).1 (rd (rootsL zs) k).2.1 = (rd (rootsL zs) k).2.2) ∧ frB (rd (rootsL zs) k).1 (rd (rootsL zs) k).2.1 = true ∧ 1 ≤ (rd (rootsL zs) k).2.2 ∧ (rd (rootsL zs) k).2.2 ≤ 12 := by
  intro k hk
  have hm := roots_ok h (rd (rootsL zs) k) (by rw [rd_eq _ _ hk]; exact List.getElem_mem _)
  exact ⟨tmR_root h hk, hm.fr, hm.times.1, hm.times.2⟩
theorem corners_fit {zs : List Int} (h : poB zs = true) : tmsS (rootsL zs) (rootsL zs).length = gd (corL zs) ((corL zs).length - 1) - gd (corL zs) 0 ∧ (rootsL zs).length = (corL zs).length - 1 ∧ 0 < (corL zs).length ∧ (corL zs).length ≤ 13 := by
  refine ⟨roots_sum h, ?_, (corL_ok h).pos, (corL_ok h).le⟩
  unfold rootsL; rw [rtsL_len]
abbrev Q4 (g i h : Nat) (a b c d : Int) (w : World) : Prop := w.cell? ⟨g, i, none⟩ = some (.int .i64 a) ∧ w.cell? ⟨g, i + 1, none⟩ = some (.int .i64 b) ∧ w.cell? ⟨h, 0, none⟩ = some (.int .i64 c) ∧ w.cell? ⟨h, 1, none⟩ = some (.int .i64 d)
theorem Q4.drew {g i h : Nat} {a b c d : Int} {w : World} (H : Q4 g i h a b c d w) : Q4 g i h a b c d w.drew := H
theorem Q4.drewN {g i h : Nat} {a b c d : Int} {w : World} (H : Q4 g i h a b c d w) (n : Nat) : Q4 g i h a b c d (w.drewN n) := H
theorem Q4.below {g i h : Nat} {a b c d : Int} {w w' : World} (H : Q4 g i h a b c d w) (hb : Below w.heap.size w w') : Q4 g i h a b c d w' := by
  obtain ⟨h1, h2, h3, h4⟩ := H
  exact ⟨(hb.cell (cell_lt h1)).trans h1, (hb.cell (cell_lt h2)).trans h2, (hb.cell (cell_lt h3)).trans h3, (hb.cell (cell_lt h4)).trans h4⟩
theorem tms_zero (rs : List Rt) : tmsS rs 0 = 0 := rfl
theorem value_fits {us : List Int} {x : Int} (h : askB us x = true) : (vrR us x).2.1 = pvI us x ∧ (vrR us x).2.2 = 1 := by
  obtain ⟨h1, h2, h3⟩ := ask_parts h
  rw [vr_value (by unfold vrB; rw [h1, h2]; rfl), pv_yes h]
  exact ⟨rfl, rfl⟩
set_option maxRecDepth 100000
set_option maxHeartbeats 8000000 in

theorem walk (a0 : Option Addr) (len0 cap0 : Nat) (z0 : List Int) (a1 : Option Addr) (len1 cap1 : Nat) (z1 : List Int) (w : World) (w0 : IsRow .u8 w a0 len0 cap0 z0) (rr0 : len0 ≤ 140737488355328) (w1 : IsRow .u8 w a1 len1 cap1 z1) (rr1 : len1 ≤ 140737488355328) (hN : Neut w ∧ Pows w) :
    Calls Tryz.prog 3 #[.slice a0 len0 cap0, .slice a1 len1 cap1] w fun e w' => e = .returned (.bool true) ∧ Below w.heap.size w w' := by
  have hl0 : len0 ≤ 9223372036854775807 := by
    rcases w0 with ⟨_, h, _⟩ | ⟨x, _, h1, h2, _⟩
    · omega
    · unfold maxLen at h2; omega
  have hl1 : len1 ≤ 9223372036854775807 := by
    rcases w1 with ⟨_, h, _⟩ | ⟨x, _, h1, h2, _⟩
    · omega
    · unfold maxLen at h2; omega
  have hR := Lib.hid (RB.of_row w0)
  have hR' := Lib.hid (RB.of_row w1)
  have N := Lib.hid hN
  clear w0 w1 hN
  by_cases hbig : 1048576 < len0 + len1
  · have hbig' : (1048576 : Int) < (len0 : Int) + len1 := by omega
    go_enter Tryz.func3, Tryz.ntmps3
    go_wp2
    go_ret
    exact ⟨rfl, Below.refl _ _⟩
  · have hb0 : len0 ≤ 1048576 := by omega
    have hb1 : len1 ≤ 1048576 := by omega
    have hbig' : ¬ (1048576 : Int) < (len0 : Int) + len1 := by omega
    have Hb0 := Lib.hid hb0
    have Hb1 := Lib.hid hb1
  
    go_enter Tryz.func3, Tryz.ntmps3
    go_wp2_with fail
    refine (drawRoots_any _ _ _ _ hR.out Hb0.out).mono ?_
    rintro e W1 ⟨pv, zs, rfl, hv, hl, b0⟩
    have BB2 := Lib.hid (b0)
    have kp := Lib.hid hv
    clear hv hl b0
    obtain ⟨ok, hok⟩ : ∃ z, z = poB zs := ⟨_, rfl⟩
    obtain ⟨rs, hrs⟩ : ∃ z, z = rootsR zs := ⟨_, rfl⟩
    obtain ⟨cs, hcs⟩ : ∃ z, z = coR zs := ⟨_, rfl⟩
    obtain ⟨G, hG⟩ : ∃ z : ByteArray, z = ⟨(rxR zs).toArray⟩ := ⟨_, rfl⟩
    have HT := Lib.hid (show ok = true → ∀ k, k < rs.length → (tmB zs (rd rs k).1 (rd rs k).2.1 = true ∧ tmR zs (rd rs k).1 (rd rs k).2.1 = (rd rs k).2.2) ∧ frB (rd rs k).1 (rd rs k).2.1 = true ∧ 1 ≤ (rd rs k).2.2 ∧ (rd rs k).2.2 ≤ 12 by rw [hok, hrs]; intro h; rw [rootsR_yes h]; exact times_all h)
    have HU := Lib.hid (show ok = true → ∀ k, k + 1 < rs.length → cmpI ((rd rs k).1 * (rd rs (k + 1)).2.1) ((rd rs (k + 1)).1 * (rd rs k).2.1) = -1 by rw [hok, hrs]; intro h; rw [rootsR_yes h]; exact fun k hk => roots_up h hk)
    have HS := Lib.hid (show ok = true → tmsS rs rs.length = gd cs (cs.length - 1) - gd cs 0 ∧ rs.length = cs.length - 1 ∧ 0 < cs.length ∧ cs.length ≤ 13 by rw [hok, hrs, hcs]; intro h; rw [rootsR_yes h, coR_yes h]; exact corners_fit h)
    have C1 := Lib.hid (fun W B (h : IS W B pv zs) => show Calls Tryz.prog 5 #[pv] W fun e w' => GivesRB ok rs W e w' by rw [hok, hrs]; exact implRootsOf_any W B pv zs h)
    have C2 := Lib.hid (fun W B (h : IS W B pv zs) => show Calls Tryz.prog 6 #[pv] W fun e w' => GivesRB ok rs W e w' by rw [hok, hrs]; exact specRootsOf_any W B pv zs h)
    have C3' := Lib.hid (fun W B (h : IS W B pv zs) => show Calls Tryz.prog 7 #[pv] W fun e w' => GivesIB ok cs W e w' by rw [hok, hcs]; exact implCornersOf_any W B pv zs h)
    have C4 := Lib.hid (fun W B (h : IS W B pv zs) => show Calls Tryz.prog 8 #[pv] W fun e w' => GivesIB ok cs W e w' by rw [hok, hcs]; exact specCornersOf_any W B pv zs h)
    have C5 := Lib.hid (fun W B (hP : Pows W) (h : IS W B pv zs) => show Calls Tryz.prog 9 #[pv] W fun e w' => e = .returned (.tuple #[.string G, .bool ok]) ∧ Below W.heap.size W w' by rw [hok, hG]; exact implRootsText_any W hP B pv zs h)
    have C6 := Lib.hid (fun W B (h : IS W B pv zs) => show Calls Tryz.prog 10 #[pv] W fun e w' => e = .returned (.tuple #[.string G, .bool ok]) ∧ Below W.heap.size W w' by rw [hok, hG]; exact specRootsText_any W B pv zs h)
    clear hok hrs hcs hG
    go_wp2_with fail
    refine (C1.out _ _ kp.out).mono ?_
    rintro e W3 ⟨r1, rfl, h1, b⟩
    have BB4 := Lib.hid (bel2 BB2.out b)
    have fp_4 := Lib.hid (kp.out.below b)
    clear kp
    clear BB2
    have k1 := Lib.hid (h1)
    clear h1 b
    go_wp2_with fail
    refine (C2.out _ _ fp_4.out).mono ?_
    rintro e W5 ⟨r2, rfl, h2, b⟩
    have BB6 := Lib.hid (bel2 BB4.out b)
    have fp_6 := Lib.hid (fp_4.out.below b)
    clear fp_4
    have fk1_6 := Lib.hid (k1.out.below b)
    clear k1
    clear BB4
    have k2 := Lib.hid (h2)
    clear h2 b
    go_wp2_with fail
    refine (C3'.out _ _ fp_6.out).mono ?_
    rintro e W7 ⟨r3, rfl, h3, b⟩
    have BB8 := Lib.hid (bel2 BB6.out b)
    have fp_8 := Lib.hid (fp_6.out.below b)
    clear fp_6
    have fk1_8 := Lib.hid (fk1_6.out.below b)
    clear fk1_6
    have fk2_8 := Lib.hid (k2.out.below b)
    clear k2
    clear BB6
    have k3 := Lib.hid (h3)
    clear h3 b
    go_wp2_with fail
    refine (C4.out _ _ fp_8.out).mono ?_
    rintro e W9 ⟨r4, rfl, h4, b⟩
    have BB10 := Lib.hid (bel2 BB8.out b)
    have fp_10 := Lib.hid (fp_8.out.below b)
    clear fp_8
    have fk1_10 := Lib.hid (fk1_8.out.below b)
    clear fk1_8
    have fk2_10 := Lib.hid (fk2_8.out.below b)
    clear fk2_8
    have fk3_10 := Lib.hid (k3.out.below b)
    clear k3
    clear BB8
    have k4 := Lib.hid (h4)
    clear h4 b
    go_wp2_with fail
    refine (C5.out _ _ (N.out.2.below BB10.out) fp_10.out).mono ?_
    rintro e W11 ⟨rfl, b⟩
    have BB12 := Lib.hid (bel2 BB10.out b)
    have fp_12 := Lib.hid (fp_10.out.below b)
    clear fp_10
    have fk1_12 := Lib.hid (fk1_10.out.below b)
    clear fk1_10
    have fk2_12 := Lib.hid (fk2_10.out.below b)
    clear fk2_10
    have fk3_12 := Lib.hid (fk3_10.out.below b)
    clear fk3_10
    have fk4_12 := Lib.hid (k4.out.below b)
    clear k4
    clear BB10
    clear b
    go_wp2_with fail
    refine (C6.out _ _ fp_12.out).mono ?_
    rintro e W13 ⟨rfl, b⟩
    have BB14 := Lib.hid (bel2 BB12.out b)
    have fp_14 := Lib.hid (fp_12.out.below b)
    clear fp_12
    have fk1_14 := Lib.hid (fk1_12.out.below b)
    clear fk1_12
    have fk2_14 := Lib.hid (fk2_12.out.below b)
    clear fk2_12
    have fk3_14 := Lib.hid (fk3_12.out.below b)
    clear fk3_12
    have fk4_14 := Lib.hid (fk4_12.out.below b)
    clear fk4_12
    clear BB12
    clear b
    clear C1 C2 C3' C4 C5 C6
    obtain ⟨A1, cap1, e1, -, -⟩ := RS.parts fk1_14.out
    obtain ⟨A2, cap2, e2, -, -⟩ := RS.parts fk2_14.out
    obtain ⟨A3, cap3, e3, -, -⟩ := IS.parts fk3_14.out
    obtain ⟨A4, cap4, e4, -, -⟩ := IS.parts fk4_14.out
    subst e1
    subst e2
    subst e3
    subst e4
    go_wp2_with fail
    refine (qRoots_same _ _ _ _ _ _ fk1_14.out fk2_14.out).mono ?_
    rintro e W15 ⟨rfl, n, hn⟩
    have b : Below W13.heap.size W13 W15 := by rw [hn]; exact belN (Below.refl _ _) n
    clear hn
    have BB16 := Lib.hid (bel2 BB14.out b)
    have fp_16 := Lib.hid (fp_14.out.below b)
    clear fp_14
    have fk1_16 := Lib.hid (fk1_14.out.below b)
    clear fk1_14
    have fk2_16 := Lib.hid (fk2_14.out.below b)
    clear fk2_14
    have fk3_16 := Lib.hid (fk3_14.out.below b)
    clear fk3_14
    have fk4_16 := Lib.hid (fk4_14.out.below b)
    clear fk4_14
    clear BB14
    clear b
    go_wp2_with fail
    refine (qInts_same _ _ _ _ _ _ fk3_16.out fk4_16.out).mono ?_
    rintro e W17 ⟨rfl, n, hn⟩
    have b : Below W15.heap.size W15 W17 := by rw [hn]; exact belN (Below.refl _ _) n
    clear hn
    have BB18 := Lib.hid (bel2 BB16.out b)
    have fp_18 := Lib.hid (fp_16.out.below b)
    clear fp_16
    have fk1_18 := Lib.hid (fk1_16.out.below b)
    clear fk1_16
    have fk2_18 := Lib.hid (fk2_16.out.below b)
    clear fk2_16
    have fk3_18 := Lib.hid (fk3_16.out.below b)
    clear fk3_16
    have fk4_18 := Lib.hid (fk4_16.out.below b)
    clear fk4_16
    clear BB16
    clear b
    clear fk1_18
    clear fk3_18
    go_upto_if 117 with fail
    go_cut [117] (fun _ wx => Below w.heap.size w wx)
    case first =>
      as_aux_lemma =>
        cases ok
        · go_wp2_with fail
          go_meet
          exact BB18.out
        · have HT' := Lib.hid (HT.out (by first | rfl | trivial))
          have HU' := Lib.hid (HU.out (by first | rfl | trivial))
          have HS' := HS.out (by first | rfl | trivial)
          clear HT HU HS
          obtain ⟨s1, s2, s3, s4⟩ := HS'
          have HS2 := Lib.hid s1
          clear s1
          obtain ⟨n, hn⟩ : ∃ n, n = rs.length := ⟨_, rfl⟩
          have HN := Lib.hid hn
          have hn12 : n ≤ 12 := by omega
          have hcn : cs.length = n + 1 := by omega
          have HCN := Lib.hid hcn
          have hp0 := Lib.hid (RS.at fk2_18.out)
          have hp4 := Lib.hid (IS.at fk4_18.out)
          obtain ⟨m, hm⟩ : ∃ m, m = cs.length := ⟨_, rfl⟩
          have HMN := Lib.hid (show m = n + 1 by omega)
          have HMC := Lib.hid hm
          rw [← hm]
          rw [← hn]
          clear hn s2 s3 s4 hcn hm
          go_wp2
          go_loopw [18, 120] (fun s i wr => ∃ k : Nat, k ≤ n ∧ i = .int .i64 (k : Int) ∧ s = .int .i64 (tmsS rs k) ∧ Hid (0 ≤ tmsS rs k ∧ tmsS rs k ≤ 12 * (k : Int)) ∧ Below W17.heap.size W17 wr) (fun _ i _ => n - (intOf i).toNat)
          case atStart => exact ⟨0, by omega, rfl, rfl, Lib.hid (by rw [tms_zero]; omega), Below.refl _ _⟩
          case round =>
            obtain ⟨k, hk, rfl, rfl, hs, hb⟩ := hrel
            by_cases hlt : k < n
            · obtain ⟨g, rfl, a0, a1, a2⟩ := hp0.out k (by rw [← HN.out]; exact hlt)
              have c0 := (hb.cell (cell_lt a0)).trans a0
              have c1 := (hb.cell (cell_lt a1)).trans a1
              have c2 := (hb.cell (cell_lt a2)).trans a2
              obtain ⟨⟨t1, t2⟩, t3, t4, t5⟩ := HT'.out k (by rw [← HN.out]; exact hlt)
              have hnx := tmsS_next (rs := rs) (k := k) (by rw [← HN.out]; exact hlt)
              obtain ⟨X, hX⟩ : ∃ X, X = rd rs k := ⟨_, rfl⟩
              have HX := Lib.hid hX
              rw [← hX] at c0 c1 c2 t1 t2 t3 t4 t5 hnx
              clear hX a0 a1 a2
              obtain ⟨ND, DD, TT⟩ := X
              dsimp only at c0 c1 c2 t1 t2 t3 t4 t5 hnx
              have CT := Lib.hid (fun W B (h : IS W B pv zs) => show Calls Tryz.prog 13 #[pv, fracV ND DD] W fun e w' => e = .returned (.tuple #[.int .i64 TT, .bool true]) ∧ Below W.heap.size W w' by
                have h9 := implTimesOfRoot_any W B pv zs ND DD h
                rw [t1, t2] at h9
                exact h9)
              have R0 := Lib.hid (R3.new wr ND DD TT 37)
              have b0 : Below W17.heap.size W17 (wr.alloc (.cells #[.int .i64 ND, .int .i64 DD, .int .i64 TT] 37)) := hb.alloc hb.size _
              have P0 := Lib.hid (IS.below fp_18.out b0)
              have HB0 := Lib.hid b0
              have hgl := cell_lt c0
              have HT3 := Lib.hid t3
              clear t1 t2 t3 b0
              go_wp2_with fail
              refine (CT.out _ _ P0.out).mono ?_
              rintro e x1 ⟨rfl, b1⟩
              have R1 := Lib.hid (R0.out.below b1)
              have B1 := Lib.hid (bel2 HB0.out b1)
              clear c0 c1 c2 CT hgl P0 R0 HB0 b1
              obtain ⟨d0, d1, d2, -, -, -⟩ := id R1.out
              have hdl := cell_lt d0
              have hT1 : ¬ TT < 1 := by omega
              have hS := hs.out
              have q1 : IntKind.i64.wrap (tmsS rs k + TT) = tmsS rs (k + 1) := by rw [IntWalk.i64_in _ (by omega), hnx]
              have HQ := Lib.hid (show 0 ≤ tmsS rs (k + 1) ∧ tmsS rs (k + 1) ≤ 12 * ((k + 1 : Nat) : Int) by rw [hnx]; omega)
              clear hnx hS
              by_cases hk0 : (0 : Int) < (k : Int)
              · obtain ⟨j, hj⟩ : ∃ j, j = k - 1 := ⟨_, rfl⟩
                have hkj : k = j + 1 := by omega
                obtain ⟨g9, hg9, a0, a1, -⟩ := hp0.out j (by rw [← HN.out]; omega)
                cases hg9
                have c0 := (B1.out.cell (cell_lt a0)).trans a0
                have c1 := (B1.out.cell (cell_lt a1)).trans a1
                have hgl := cell_lt c0
                have hu := HU'.out j (by rw [← HN.out]; omega)
                have ht := (HT'.out j (by rw [← HN.out]; omega)).2.1
                rw [← hkj, ← HX.out] at hu
                obtain ⟨Y, hY⟩ : ∃ Y, Y = rd rs j := ⟨_, rfl⟩
                rw [← hY] at c0 c1 hu ht
                clear hY a0 a1
                obtain ⟨NY, DY, TY⟩ := Y
                dsimp only at c0 c1 hu ht
                have CU := Lib.hid (fun W => show Calls Tryz.prog 14 #[fracV NY DY, fracV ND DD] W fun e w' => e = .returned (.tuple #[.int .i64 (-1), .bool true]) ∧ Below W.heap.size W w' by
                  have h9 := implCompareFracs_any NY DY ND DD W
                  unfold GivesC at h9
                  rw [hu, show twoB NY DY ND DD = true by unfold twoB; rw [ht, HT3.out]; rfl] at h9
                  exact h9)
                have q2 : IntKind.i64.wrap ((k : Int) - 1) = (j : Int) := by rw [IntWalk.i64_in _ (by omega)]; omega
                have hjn : j < n := by omega
                clear hu ht hj hkj
                go_wp2_with fail
                have HQ4 : Q4 g (j * 3) wr.heap.size NY DY ND DD x1 := ⟨c0, c1, d0, d1⟩
                go_region_held3 (fun w' => w'.cell? ⟨g, j * 3, none⟩ = some (.int .i64 NY) ∧ w'.cell? ⟨g, j * 3 + 1, none⟩ = some (.int .i64 DY) ∧ w'.cell? ⟨wr.heap.size, 0, none⟩ = some (.int .i64 ND) ∧ w'.cell? ⟨wr.heap.size, 1, none⟩ = some (.int .i64 DD)) (repeat' (first | with_reducible assumption | with_reducible refine Q4.below ?_ (by assumption) | with_reducible refine Q4.drew ?_ | with_reducible refine Q4.drewN ?_ _)) (first | (go_at_call 14; refine (CU.out _).mono ?_; rintro e x2 ⟨rfl, b2⟩; have y2 := cellAt b2))
                have B2 := Lib.hid (bel2 B1.out.drew b2)
                clear b2 y2 c0 c1 d0 d1 d2 hgl hdl HQ4
                go_wp2
                go_roundw
                case rel => exact ⟨k + 1, by omega, by go_num, rfl, HQ, B2.out⟩
                case measure => simp [intOf]; omega
              · go_wp2
                go_roundw
                case rel => exact ⟨k + 1, by omega, by go_num, rfl, HQ, B1.out⟩
                case measure => simp [intOf]; omega
            · have hkn : k = n := by omega
              subst hkn
              have hmn := HMN.out
              obtain ⟨g, rfl, a0⟩ := hp4.out 0 (by rw [← HMC.out]; omega)
              obtain ⟨g9, hg9, a1⟩ := hp4.out k (by rw [← HMC.out]; omega)
              cases hg9
              have c0 := (hb.cell (cell_lt a0)).trans a0
              have c1 := (hb.cell (cell_lt a1)).trans a1
              have hsum := HS2.out
              rw [← HN.out, ← HMC.out, show m - 1 = k by omega] at hsum
              have hS := hs.out
              obtain ⟨x0, hx0⟩ : ∃ z, z = gd cs 0 := ⟨_, rfl⟩
              obtain ⟨xn, hxn⟩ : ∃ z, z = gd cs k := ⟨_, rfl⟩
              rw [← hx0] at c0 hsum
              rw [← hxn] at c1 hsum
              clear hx0 hxn a0 a1
              have q1 : IntKind.i64.wrap ((m : Int) - 1) = (k : Int) := by rw [IntWalk.i64_in _ (by omega)]; omega
              have q2 : IntKind.i64.wrap (xn - x0) = tmsS rs k := by rw [hsum]; exact IntWalk.i64_in _ (by omega)
              have q3 : ((m : Int) == 0) = false := by simp; omega
              have q4 : decide ((m : Int) = 0) = false := by simp; omega
              have hkm : k < m := by omega
              have hm0 : 0 < m := by omega
              have HB := Lib.hid (bel2 BB18.out hb)
              clear hsum hS hmn
              go_wp2_with fail
              go_quiet (fail)
              go_wp2_with fail
              have e1 := HN.out
              have e2 := HMC.out
              clear HN HMC HMN q1 q2 q3 q4
              subst e1
              subst e2
              go_meet
              exact belN HB.out _
    case rest =>
    have BC := Lib.hid hcut
    clear hcut HT HU HS BB18 fp_18 fk2_18 fk4_18
    go_wp2_with fail
    refine (drawTimesOfRoot_any _ _ _ _ (RB.below hR'.out BC.out) Hb1.out).mono ?_
    rintro e W19 ⟨qv, qs, fa, fb, rfl, hq, hql, b⟩
    have BB20 := Lib.hid (bel2 BC.out b)
    clear BC
    have kq := Lib.hid hq
    clear hq hql b
    have fx21 := Lib.hid (S2.new W19 (fa) (fb) 35)
    have bx21 : Below W19.heap.size W19 (W19.alloc (.cells #[.int .i64 (fa), .int .i64 (fb)] 35)) := (Below.refl _ _).alloc (Nat.le_refl _) _
    have BB22 := Lib.hid (bel2 BB20.out bx21)
    have fq_22 := Lib.hid (kq.out.below bx21)
    clear kq
    clear BB20
    obtain ⟨tm, htm⟩ : ∃ z, z = tmR qs fa fb := ⟨_, rfl⟩
    obtain ⟨tb, htb⟩ : ∃ z, z = tmB qs fa fb := ⟨_, rfl⟩
    have D1 := Lib.hid (fun W B (h : IS W B qv qs) => show Calls Tryz.prog 13 #[qv, fracV fa fb] W fun e w' => e = .returned (.tuple #[.int .i64 tm, .bool tb]) ∧ Below W.heap.size W w' by rw [htm, htb]; exact implTimesOfRoot_any W B qv qs fa fb h)
    have D2 := Lib.hid (fun W B (h : IS W B qv qs) => show Calls Tryz.prog 16 #[qv, fracV fa fb] W fun e w' => e = .returned (.tuple #[.int .i64 tm, .bool tb]) ∧ Below W.heap.size W w' by rw [htm, htb]; exact specTimesOfRoot_any W B qv qs fa fb h)
    clear htm htb
    have yf := fx21.out
    obtain ⟨f0, f1⟩ := yf
    have fl := cell_lt f0
    go_wp2_with fail
    refine (D1.out _ _ fq_22.out).mono ?_
    rintro e W23 ⟨rfl, b⟩
    clear f0 f1 fl
    have BB24 := Lib.hid (bel2 BB22.out b)
    have fq_24 := Lib.hid (fq_22.out.below b)
    clear fq_22
    have ff_24 := Lib.hid (fx21.out.below b)
    clear fx21
    clear BB22
    clear b
    have yf := ff_24.out
    obtain ⟨f0, f1⟩ := yf
    have fl := cell_lt f0
    go_wp2_with fail
    refine (D2.out _ _ fq_24.out).mono ?_
    rintro e W25 ⟨rfl, b⟩
    clear f0 f1 fl
    have BB26 := Lib.hid (bel2 BB24.out b)
    have fq_26 := Lib.hid (fq_24.out.below b)
    clear fq_24
    have ff_26 := Lib.hid (ff_24.out.below b)
    clear ff_24
    clear BB24
    clear b D1 D2
    go_wp2_with fail
    refine (drawValueByRoots_any _ _ _ _ (RB.below hR'.out BB26.out) Hb1.out).mono ?_
    rintro e W27 ⟨uv, us, x, rfl, hu, hul, b⟩
    have BB28 := Lib.hid (bel2 BB26.out b)
    clear BB26
    have ku := Lib.hid hu
    clear hu hul b
    obtain ⟨V, hV⟩ : ∃ V, V = vrR us x := ⟨_, rfl⟩
    obtain ⟨ak, hak⟩ : ∃ z, z = askB us x := ⟨_, rfl⟩
    obtain ⟨pi, hpi⟩ : ∃ z, z = pvI us x := ⟨_, rfl⟩
    have HVF := Lib.hid (show ak = true → V.2.1 = pi ∧ V.2.2 = 1 by rw [hak, hV, hpi]; exact value_fits)
    have E1 := Lib.hid (fun W B (h : IS W B uv us) => show Calls Tryz.prog 18 #[uv, .int .i64 x] W fun e w' => GivesF V.2.1 V.2.2 V.1 W e w' by rw [hV]; exact implValueByRoots_any W B uv us x h)
    have E2 := Lib.hid (fun W B (h : IS W B uv us) => show Calls Tryz.prog 19 #[uv, .int .i64 x] W fun e w' => GivesF V.2.1 V.2.2 V.1 W e w' by rw [hV]; exact specValueByRoots_any W B uv us x h)
    have E3 := Lib.hid (fun W B (hN : Neut W) (h : IS W B uv us) => show Calls Tryz.prog 20 #[uv, .int .i64 x] W fun e w' => e = .returned (.tuple #[.int .i64 pi, .bool ak]) ∧ Below W.heap.size W w' by rw [hpi, hak]; exact implPolyValue_any W hN B uv us x h)
    clear hV hak hpi
    obtain ⟨vm, vn, vd⟩ := V
    dsimp only at HVF E1 E2
    go_wp2_with fail
    refine (E1.out _ _ ku.out).mono ?_
    rintro e W29 ⟨rfl, b⟩
    have BB30 := Lib.hid (bel2 BB28.out b)
    have fu_30 := Lib.hid (ku.out.below b)
    clear ku
    clear BB28
    clear b
    have fx31 := Lib.hid (S2.new W29 (vn) (vd) 35)
    have bx31 : Below W29.heap.size W29 (W29.alloc (.cells #[.int .i64 (vn), .int .i64 (vd)] 35)) := (Below.refl _ _).alloc (Nat.le_refl _) _
    have BB32 := Lib.hid (bel2 BB30.out bx31)
    have fu_32 := Lib.hid (fu_30.out.below bx31)
    clear fu_30
    clear BB30
    have yv := fx31.out
    obtain ⟨v0, v1⟩ := yv
    have vl := cell_lt v0
    go_wp2_with fail
    refine (E2.out _ _ fu_32.out).mono ?_
    rintro e W33 ⟨rfl, b⟩
    clear v0 v1 vl
    have BB34 := Lib.hid (bel2 BB32.out b)
    have fu_34 := Lib.hid (fu_32.out.below b)
    clear fu_32
    have fv_34 := Lib.hid (fx31.out.below b)
    clear fx31
    clear BB32
    clear b
    have fx35 := Lib.hid (S2.new W33 (vn) (vd) 35)
    have bx35 : Below W33.heap.size W33 (W33.alloc (.cells #[.int .i64 (vn), .int .i64 (vd)] 35)) := (Below.refl _ _).alloc (Nat.le_refl _) _
    have BB36 := Lib.hid (bel2 BB34.out bx35)
    have fu_36 := Lib.hid (fu_34.out.below bx35)
    clear fu_34
    have fv_36 := Lib.hid (fv_34.out.below bx35)
    clear fv_34
    clear BB34
    clear E1 E2
    cases vm
    · clear E3 HVF
      have yv := fv_36.out
      obtain ⟨v0, v1⟩ := yv
      have vl := cell_lt v0
      have yz := fx35.out
      obtain ⟨z0, z1⟩ := yz
      have zl := cell_lt z0
      go_wp2_with fail
      go_ret
      exact ⟨rfl, BB36.out⟩
    · have yv := fv_36.out
      obtain ⟨v0, v1⟩ := yv
      have vl := cell_lt v0
      have yz := fx35.out
      obtain ⟨z0, z1⟩ := yz
      have zl := cell_lt z0
      go_wp2_with fail
      refine (E3.out _ _ (N.out.1.below BB36.out) fu_36.out).mono ?_
      rintro e W37 ⟨rfl, b⟩
      clear v0 v1 vl
      clear z0 z1 zl
      have BB38 := Lib.hid (bel2 BB36.out b)
      have fu_38 := Lib.hid (fu_36.out.below b)
      clear fu_36
      have fv_38 := Lib.hid (fv_36.out.below b)
      clear fv_36
      have fz_38 := Lib.hid (fx35.out.below b)
      clear fx35
      clear BB36
      clear b E3
      cases ak
      · clear HVF
        have yv := fv_38.out
        obtain ⟨v0, v1⟩ := yv
        have vl := cell_lt v0
        have yz := fz_38.out
        obtain ⟨z0, z1⟩ := yz
        have zl := cell_lt z0
        go_wp2_with fail
        go_ret
        exact ⟨rfl, BB38.out⟩
      · obtain ⟨v1, v2⟩ := HVF.out (by first | rfl | trivial)
        clear HVF
        subst v1
        subst v2
        have yv := fv_38.out
        obtain ⟨v0, v1⟩ := yv
        have vl := cell_lt v0
        have yz := fz_38.out
        obtain ⟨z0, z1⟩ := yz
        have zl := cell_lt z0
        go_wp2_with fail
        go_ret
        exact ⟨rfl, BB38.out⟩
end Go.Proofs.YtklcildhfcomnaaGreatDoor.fnRoots
