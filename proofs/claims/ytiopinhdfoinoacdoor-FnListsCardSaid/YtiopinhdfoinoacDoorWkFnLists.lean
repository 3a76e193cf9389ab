/-
  For all drawn lists, places have the least number, lists vanish if it is there twice, shifted lists shift it, and dots are the same both ways.
  No condition but that the table of the program holds what the program's text lays there (the card ties it).
-/
import Derived.Test.YtiopinhdfoinoacDoorRows
import Derived.WalkKit
import Derived.ProofKit
import Derived.OpenShut
import Derived.ShutString
import Derived.Below
import Derived.Carry
import Derived.Lib.SmallJoins
import Derived.SizedLaws
import Derived.MakeChecks
import Derived.OpenVars
import Derived.LaidMore
import Derived.Stop.Joined
import Derived.Lib.LaidTab
import Derived.Test.YtiopinhdfoinoacDoorLsD
import Derived.Deep.DeepCutAuto
namespace Go.Proofs.YtiopinhdfoinoacDoor.fnLists
set_option linter.unusedSimpArgs false
set_option linter.unusedVariables false
open Go.ChangeShapes Go.WideShapes Go.ChangeAt Go.RowKit
open Go.ChangeMaps (open_string shut_string)
set_option linter.unusedVariables false
/-- What the condition gives: the table's cells. -/
theorem laid_of {W : World} (h : laidMetH Tryd.prog Rows.fnListsRow.laid W) : Neut W := by
  exact neut_of_laid h
theorem IS.at {w : World} {B n cap : Nat} {A : Option Addr} {zs : List Int} (h : IS w B (.slice A n cap) zs) : ∀ k, k < zs.length → ∃ g, A = some ⟨g, 0, none⟩ ∧ w.cell? ⟨g, k, none⟩ = some (.int .i64 (gd zs k)) := by
  obtain ⟨A', cap', he, -, hp⟩ := h.parts
  cases he
  exact hp
theorem list_fits {zs : List Int} (h : listB zs = true) : (∀ k, k < zs.length → sumV zs ≤ gd zs k ∧ inL (lpRes zs) (k : Int) = decide (gd zs k = sumV zs)) ∧ (sumV zs = 1000000000 → vanR zs = true) ∧ (sumV zs ≠ 1000000000 → vanR zs = decide (1 < (lpRes zs).length)) := by
  have e1 : sumV zs = leastL zs := if_pos h
  have e2 : lpRes zs = places zs := if_pos h
  have e3 : vanR zs = vanB zs := by unfold vanR; rw [h]; rfl
  rw [e1, e2, e3]
  refine ⟨fun k hk => ⟨least_le9 hk, places_in hk⟩, fun h => ?_, fun h => ?_⟩
  · unfold vanB; simp [h]
  · unfold vanB; simp [h]
theorem shift_fits {us : List Int} {d : Int} (h : shOk us d = true) : listB us = true ∧ listB (shRes us d) = true ∧ (sumV us ≠ 1000000000 → sumV (shRes us d) = sumV us + d ∧ (-1000000 ≤ sumV us ∧ sumV us ≤ 1000000) ∧ -1000000 ≤ d ∧ d ≤ 1000000) := by
  obtain ⟨h1, h2, h3⟩ := shift_listB h
  refine ⟨h2, by rw [shRes_yes h]; exact h1, fun hl => ⟨sum_shift h hl, ?_, ?_⟩⟩
  · have e1 : sumV us = leastL us := if_pos h2
    rw [e1] at hl ⊢
    exact least_fin us (list_parts h2).2 (by simpa using hl)
  · exact (finB_iff d).1 h3
set_option maxRecDepth 100000
set_option maxHeartbeats 8000000 in

theorem walk (a0 : Option Addr) (len0 cap0 : Nat) (z0 : List Int) (a1 : Option Addr) (len1 cap1 : Nat) (z1 : List Int) (w : World) (w0 : IsRow .u8 w a0 len0 cap0 z0) (w1 : IsRow .u8 w a1 len1 cap1 z1) (hN : Neut w) :
    Calls Tryd.prog 3 #[.slice a0 len0 cap0, .slice a1 len1 cap1] w fun e w' => e = .returned (.bool true) ∧ Below w.heap.size w w' := by
  have hl0 : len0 ≤ 9223372036854775807 := by
    rcases w0 with ⟨_, h, _⟩ | ⟨x, _, h1, h2, _⟩
    · omega
    · unfold maxLen at h2; omega
  have hl1 : len1 ≤ 9223372036854775807 := by
    rcases w1 with ⟨_, h, _⟩ | ⟨x, _, h1, h2, _⟩
    · omega
    · unfold maxLen at h2; omega
  have hR := Lib.hid (RB.of_row w0)
  have hR' := Lib.hid (RB.of_row w1)
  have N := Lib.hid hN
  clear w0 w1 hN
  by_cases hbig : 1048576 < len0 + len1
  · go_enter Tryd.func3, Tryd.ntmps3
    go_wp2_with fail
    refine (big9_any _ _ _ _ _ _ hl0 hl1 _).mono ?_
    rintro e w' ⟨rfl, rfl⟩
    rw [decide_eq_true hbig]
    go_wp2
    go_ret
    exact ⟨rfl, Below.refl _ _⟩
  · have hb0 : len0 ≤ 1048576 := by omega
    have hb1 : len1 ≤ 1048576 := by omega
    have Hb0 := Lib.hid hb0
    have Hb1 := Lib.hid hb1
  
    go_enter Tryd.func3, Tryd.ntmps3
    go_wp2_with fail
    refine (big9_any _ _ _ _ _ _ hl0 hl1 _).mono ?_
    rintro e w' ⟨rfl, rfl⟩
    rw [decide_eq_false hbig]
    go_wp2_with fail
    refine (drawLeastPlaces_any _ _ _ _ hR.out Hb0.out).mono ?_
    rintro e W1 ⟨pv, zs, rfl, hv, hl, b0⟩
    have BB2 := Lib.hid (b0)
    have kp := Lib.hid hv
    clear hv hl b0
    obtain ⟨ok, hok⟩ : ∃ z, z = listB zs := ⟨_, rfl⟩
    obtain ⟨pl, hpl⟩ : ∃ z, z = lpRes zs := ⟨_, rfl⟩
    obtain ⟨sm, hsm⟩ : ∃ z, z = sumV zs := ⟨_, rfl⟩
    obtain ⟨vn, hvn⟩ : ∃ z, z = vanR zs := ⟨_, rfl⟩
    have HF := Lib.hid (show ok = true → (∀ k, k < zs.length → sm ≤ gd zs k ∧ inL pl (k : Int) = decide (gd zs k = sm)) ∧ (sm = 1000000000 → vn = true) ∧ (sm ≠ 1000000000 → vn = decide (1 < pl.length)) by rw [hok, hpl, hsm, hvn]; exact list_fits)
    have C1 := Lib.hid (fun W B (hN : Neut W) (h : IS W B pv zs) => show Calls Tryd.prog 6 #[pv] W fun e w' => GivesIB ok pl W e w' by rw [hok, hpl]; exact implLeastPlaces_any W hN B pv zs h)
    have C2 := Lib.hid (fun W B (h : IS W B pv zs) => show Calls Tryd.prog 7 #[pv] W fun e w' => GivesIB ok pl W e w' by rw [hok, hpl]; exact specLeastPlaces_any W B pv zs h)
    have C3 := Lib.hid (fun W B (hN : Neut W) (h : IS W B pv zs) => show Calls Tryd.prog 8 #[pv] W fun e w' => e = .returned (.tuple #[.int .i64 sm, .bool ok]) ∧ W = w' by rw [hok, hsm]; exact implTropSumOf_any W hN B pv zs h)
    have C4 := Lib.hid (fun W B (h : IS W B pv zs) => show Calls Tryd.prog 9 #[pv] W fun e w' => e = .returned (.tuple #[.int .i64 sm, .bool ok]) ∧ W = w' by rw [hok, hsm]; exact specTropSumOf_any W B pv zs h)
    have C5 := Lib.hid (fun W B (hN : Neut W) (h : IS W B pv zs) => show Calls Tryd.prog 10 #[pv] W fun e w' => SaysBB vn ok W e w' by rw [hok, hvn]; exact implDoesVanish_any W hN B pv zs h)
    have C6 := Lib.hid (fun W B (h : IS W B pv zs) => show Calls Tryd.prog 11 #[pv] W fun e w' => SaysBB vn ok W e w' by rw [hok, hvn]; exact specDoesVanish_any W B pv zs h)
    clear hok hpl hsm hvn
    go_wp2_with fail
    refine (C1.out _ _ (N.out.below BB2.out) kp.out).mono ?_
    rintro e W3 ⟨r1, rfl, h1, b⟩
    have BB4 := Lib.hid (bel2 BB2.out b)
    have fp_4 := Lib.hid (kp.out.below b)
    clear kp
    clear BB2
    have k1 := Lib.hid h1
    clear h1 b
    go_wp2_with fail
    refine (C2.out _ _ fp_4.out).mono ?_
    rintro e W5 ⟨r2, rfl, h2, b⟩
    have BB6 := Lib.hid (bel2 BB4.out b)
    have fp_6 := Lib.hid (fp_4.out.below b)
    clear fp_4
    have fk1_6 := Lib.hid (k1.out.below b)
    clear k1
    clear BB4
    have k2 := Lib.hid h2
    clear h2 b
    go_wp2_with fail
    refine (C3.out _ _ (N.out.below BB6.out) fp_6.out).mono ?_
    rintro e w' ⟨rfl, rfl⟩
    go_wp2_with fail
    refine (C4.out _ _ fp_6.out).mono ?_
    rintro e w' ⟨rfl, rfl⟩
    go_wp2_with fail
    refine (C5.out _ _ (N.out.below BB6.out) fp_6.out).mono ?_
    rintro e W7 ⟨rfl, b⟩
    have BB8 := Lib.hid (bel2 BB6.out b)
    have fp_8 := Lib.hid (fp_6.out.below b)
    clear fp_6
    have fk1_8 := Lib.hid (fk1_6.out.below b)
    clear fk1_6
    have fk2_8 := Lib.hid (k2.out.below b)
    clear k2
    clear BB6
    clear b
    go_wp2_with fail
    refine (C6.out _ _ fp_8.out).mono ?_
    rintro e W9 ⟨rfl, b⟩
    have BB10 := Lib.hid (bel2 BB8.out b)
    have fp_10 := Lib.hid (fp_8.out.below b)
    clear fp_8
    have fk1_10 := Lib.hid (fk1_8.out.below b)
    clear fk1_8
    have fk2_10 := Lib.hid (fk2_8.out.below b)
    clear fk2_8
    clear BB8
    clear b
    clear C1 C2 C3 C4 C5 C6
    obtain ⟨A0, cap0', e0, -, -⟩ := IS.parts fp_10.out
    obtain ⟨A1, cap1', e1, -, -⟩ := IS.parts fk1_10.out
    obtain ⟨A2, cap2', e2, -, -⟩ := IS.parts fk2_10.out
    subst e0
    subst e1
    subst e2
    go_wp2_with fail
    refine (sameInts_same _ _ _ _ _ _ fk1_10.out fk2_10.out).mono ?_
    rintro e W11 ⟨rfl, n, hn⟩
    have b : Below W9.heap.size W9 W11 := by rw [hn]; exact belN (Below.refl _ _) n
    clear hn
    have BB12 := Lib.hid (bel2 BB10.out b)
    have fp_12 := Lib.hid (fp_10.out.below b)
    clear fp_10
    have fk1_12 := Lib.hid (fk1_10.out.below b)
    clear fk1_10
    have fk2_12 := Lib.hid (fk2_10.out.below b)
    clear fk2_10
    clear BB10
    clear b
    clear fk1_12
    go_upto_if 123 with fail
    go_cut [123] (fun _ wx => Below w.heap.size w wx)
    case first =>
      as_aux_lemma =>
        cases ok
        · go_wp2_with fail
          go_meet
          exact BB12.out
        · obtain ⟨HF1, HF2, HF3⟩ := HF.out (by first | rfl | trivial)
          have HF1 := Lib.hid HF1
          have HF2 := Lib.hid HF2
          have HF3 := Lib.hid HF3
          clear HF
          obtain ⟨n, hn⟩ : ∃ n, n = zs.length := ⟨_, rfl⟩
          have HN := Lib.hid hn
          obtain ⟨m, hm⟩ : ∃ m, m = pl.length := ⟨_, rfl⟩
          have HM := Lib.hid hm
          rw [← hm] at HF3 ⊢
          have kpm : Hid (IS W11 _ (.slice A2 m cap2') pl) := Lib.hid (by rw [hm]; exact fk2_12.out)
          have hmx := (IS.parts fk2_12.out)
          have hm1 : m ≤ 9223372036854775807 := by rw [hm]; obtain ⟨_, _, _, h, _⟩ := hmx; unfold maxLen at h; exact h
          have hn1 : n ≤ 9223372036854775807 := by rw [hn]; obtain ⟨_, _, _, h, _⟩ := (IS.parts fp_12.out); unfold maxLen at h; exact h
          clear hmx
          have hp0 := Lib.hid (IS.at fp_12.out)
          rw [← hn]
          clear hn hm
          go_wp2
          go_loopw [126] (fun i wr => ∃ k : Nat, k ≤ n ∧ i = .int .i64 (k : Int) ∧ Below W11.heap.size W11 wr) (fun i _ => n - (intOf i).toNat)
          case atStart => exact ⟨0, by omega, rfl, Below.refl _ _⟩
          case round =>
            obtain ⟨k, hk, rfl, hb⟩ := hrel
            by_cases hlt : k < n
            · have hkz : k < zs.length := by rw [← HN.out]; exact hlt
              obtain ⟨g, rfl, a0⟩ := hp0.out k hkz
              have c0 := (hb.cell (cell_lt a0)).trans a0
              obtain ⟨t1, t2⟩ := HF1.out k hkz
              obtain ⟨x, hx⟩ : ∃ x, x = gd zs k := ⟨_, rfl⟩
              rw [← hx] at c0 t1 t2
              have hgl := cell_lt c0
              have hns : ¬ x < sm := by omega
              have CP := Lib.hid (pIn_any wr _ _ pl (k : Int) (kpm.out.below hb))
              rw [t2] at CP
              clear a0 t2 hx
              by_cases hq : x = sm
              · have hq1 : (x == sm) = true := by simpa using hq
                rw [decide_eq_true hq] at CP
                go_wp2_with fail
                refine CP.out.mono ?_
                rintro e w' ⟨rfl, rfl⟩
                go_wp2
                go_roundw
                case rel => exact ⟨k + 1, by omega, by go_num, hb⟩
                case measure => simp [intOf]; omega
              · have hq1 : (x == sm) = false := by simpa using hq
                rw [decide_eq_false hq] at CP
                go_wp2_with fail
                refine CP.out.mono ?_
                rintro e w' ⟨rfl, rfl⟩
                go_wp2
                go_roundw
                case rel => exact ⟨k + 1, by omega, by go_num, hb⟩
                case measure => simp [intOf]; omega
            · have HB := Lib.hid (bel2 BB12.out hb)
              by_cases hi : sm = 1000000000
              · have hi1 : (sm == 1000000000) = true := by simpa using hi
                have hv := HF2.out hi
                have e1 := HN.out
                have e2 := HM.out
                clear HF1 HF2 HF3 hi HN HM
                subst hv
                subst e1
                subst e2
                go_wp2
                go_meet
                exact HB.out
              · have hi1 : (sm == 1000000000) = false := by simpa using hi
                have hv := HF3.out hi
                clear HF1 HF2 HF3
                by_cases hp : 1 < m
                · rw [decide_eq_true hp] at hv
                  have hp1 : (1 : Int) < (m : Int) := by omega
                  have e1 := HN.out
                  have e2 := HM.out
                  clear HN HM hi
                  subst hv
                  subst e1
                  subst e2
                  go_wp2
                  go_meet
                  exact HB.out
                · rw [decide_eq_false hp] at hv
                  have e1 := HN.out
                  have e2 := HM.out
                  clear HN HM hi
                  subst hv
                  subst e1
                  subst e2
                  go_wp2
                  go_meet
                  exact HB.out
    case rest =>
    have BC := Lib.hid hcut
    clear hcut HF BB12 fp_12 fk2_12
    go_wp2_with fail
    refine (drawShiftList_any _ _ _ _ (RB.below hR'.out BC.out) Hb1.out).mono ?_
    rintro e W13 ⟨uv, us, d, rfl, hu, hul, b⟩
    have BB14 := Lib.hid (bel2 BC.out b)
    clear BC
    have ku := Lib.hid hu
    clear hu hul b
    obtain ⟨five, h5⟩ : ∃ z, z = shOk us d := ⟨_, rfl⟩
    obtain ⟨sh, hsh⟩ : ∃ z, z = shRes us d := ⟨_, rfl⟩
    have HS := Lib.hid (show five = true → listB us = true ∧ listB sh = true ∧ (sumV us ≠ 1000000000 → sumV sh = sumV us + d ∧ (-1000000 ≤ sumV us ∧ sumV us ≤ 1000000) ∧ -1000000 ≤ d ∧ d ≤ 1000000) by rw [h5, hsh]; exact shift_fits)
    have D1 := Lib.hid (fun W B (h : IS W B uv us) => show Calls Tryd.prog 15 #[uv, .int .i64 d] W fun e w' => GivesIB five sh W e w' by rw [h5, hsh]; exact implShiftList_any W B uv us d h)
    have D2 := Lib.hid (fun W B (h : IS W B uv us) => show Calls Tryd.prog 16 #[uv, .int .i64 d] W fun e w' => GivesIB five sh W e w' by rw [h5, hsh]; exact specShiftList_any W B uv us d h)
    clear h5 hsh
    go_wp2_with fail
    refine (D1.out _ _ ku.out).mono ?_
    rintro e W15 ⟨r3, rfl, h3, b⟩
    have BB16 := Lib.hid (bel2 BB14.out b)
    have fu_16 := Lib.hid (ku.out.below b)
    clear ku
    clear BB14
    have k3 := Lib.hid h3
    clear h3 b
    go_wp2_with fail
    refine (D2.out _ _ fu_16.out).mono ?_
    rintro e W17 ⟨r4, rfl, h4, b⟩
    have BB18 := Lib.hid (bel2 BB16.out b)
    have fu_18 := Lib.hid (fu_16.out.below b)
    clear fu_16
    have fk3_18 := Lib.hid (k3.out.below b)
    clear k3
    clear BB16
    have k4 := Lib.hid h4
    clear h4 b
    clear D1 D2
    obtain ⟨A3, cap3', e3, -, -⟩ := IS.parts fk3_18.out
    obtain ⟨A4, cap4', e4, -, -⟩ := IS.parts k4.out
    obtain ⟨A5, cap5', e5, -, -⟩ := IS.parts fu_18.out
    subst e3
    subst e4
    subst e5
    go_wp2_with fail
    refine (sameInts_same _ _ _ _ _ _ fk3_18.out k4.out).mono ?_
    rintro e W19 ⟨rfl, n, hn⟩
    have b : Below W17.heap.size W17 W19 := by rw [hn]; exact belN (Below.refl _ _) n
    clear hn
    have BB20 := Lib.hid (bel2 BB18.out b)
    have fu_20 := Lib.hid (fu_18.out.below b)
    clear fu_18
    have fk3_20 := Lib.hid (fk3_18.out.below b)
    clear fk3_18
    have fk4_20 := Lib.hid (k4.out.below b)
    clear k4
    clear BB18
    clear b
    go_upto_if 179 with fail
    go_cut [179] (fun _ wx => Below w.heap.size w wx)
    case first =>
      as_aux_lemma =>
        cases five
        · go_wp2_with fail
          go_meet
          exact BB20.out
        · obtain ⟨s1, s2, s3⟩ := HS.out (by first | rfl | trivial)
          have HS3 := Lib.hid s3
          obtain ⟨x0, hx0⟩ : ∃ z, z = sumV us := ⟨_, rfl⟩
          obtain ⟨x1, hx1⟩ : ∃ z, z = sumV sh := ⟨_, rfl⟩
          have E1 := Lib.hid (fun W B v (hN : Neut W) (h : IS W B v us) => show Calls Tryd.prog 8 #[v] W fun e w' => e = .returned (.tuple #[.int .i64 x0, .bool true]) ∧ W = w' by have := implTropSumOf_any W hN B v us h; rwa [s1, ← hx0] at this)
          have E2 := Lib.hid (fun W B v (hN : Neut W) (h : IS W B v sh) => show Calls Tryd.prog 8 #[v] W fun e w' => e = .returned (.tuple #[.int .i64 x1, .bool true]) ∧ W = w' by have := implTropSumOf_any W hN B v sh h; rwa [s2, ← hx1] at this)
          have E3 := Lib.hid (fun W B v (h : IS W B v sh) => show Calls Tryd.prog 9 #[v] W fun e w' => e = .returned (.tuple #[.int .i64 x1, .bool true]) ∧ W = w' by have := specTropSumOf_any W B v sh h; rwa [s2, ← hx1] at this)
          rw [← hx0, ← hx1] at HS3
          clear HS hx0 hx1 s1 s2 s3
          obtain ⟨n, hn⟩ : ∃ n, n = us.length := ⟨_, rfl⟩
          have ku2 : Hid (IS W19 _ (.slice A5 n cap5') us) := Lib.hid (by rw [hn]; exact fu_20.out)
          have HN := Lib.hid hn
          rw [← hn]
          clear hn
          go_wp2_with fail
          refine (E1.out _ _ _ (N.out.below BB20.out) ku2.out).mono ?_
          rintro e w' ⟨rfl, rfl⟩
          go_wp2_with fail
          refine (E2.out _ _ _ (N.out.below BB20.out) fk3_20.out).mono ?_
          rintro e w' ⟨rfl, rfl⟩
          go_wp2_with fail
          refine (E3.out _ _ _ fk4_20.out).mono ?_
          rintro e w' ⟨rfl, rfl⟩
          clear E1 E2 E3
          by_cases hi : x0 = 1000000000
          · have hi1 : (x0 != 1000000000) = false := by simpa using hi
            have e1 := HN.out
            clear HS3 hi HN
            by_cases h0 : 0 < (n : Int)
            · subst e1
              go_wp2
              go_meet
              exact BB20.out
            · subst e1
              go_wp2
              go_meet
              exact BB20.out
          · have hi1 : (x0 != 1000000000) = true := by simpa using hi
            obtain ⟨s3, s4, s5⟩ := HS3.out hi
            have q1 : IntKind.i64.wrap (x0 + d) = x1 := by rw [s3]; exact IntWalk.i64_in _ (by omega)
            have e1 := HN.out
            clear HS3 s3 s4 s5 HN hi
            by_cases h0 : 0 < (n : Int)
            · subst e1
              go_wp2
              go_meet
              exact BB20.out
            · subst e1
              go_wp2
              go_meet
              exact BB20.out
    case rest =>
    have BD := Lib.hid hcut
    clear hcut HS BB20 fu_20 fk3_20 fk4_20
    go_wp2_with fail
    refine (drawNormalList_any _ _ _ _ (RB.below hR'.out BD.out) Hb1.out).mono ?_
    rintro e W21 ⟨nv, ns, rfl, hv, hl, b⟩
    have BB22 := Lib.hid (bel2 BD.out b)
    clear BD
    have kn := Lib.hid hv
    clear hv hl b
    obtain ⟨sev, h7⟩ : ∃ z, z = nmOk ns := ⟨_, rfl⟩
    obtain ⟨nr, hnr⟩ : ∃ z, z = nmRes ns := ⟨_, rfl⟩
    obtain ⟨nm, hnm⟩ : ∃ z, z = nmV ns := ⟨_, rfl⟩
    have HZ := Lib.hid (show sev = true → listB nr = true ∧ sumV nr = 0 by rw [h7, hnr]; exact nm_zero)
    have F1 := Lib.hid (fun W B (hN : Neut W) (h : IS W B nv ns) => show Calls Tryd.prog 18 #[nv] W fun e w' => ∃ r, e = .returned (.tuple #[r, .int .i64 nm, .bool sev]) ∧ IS w' W.heap.size r nr ∧ Below W.heap.size W w' by rw [h7, hnr, hnm]; exact implNormalList_any W hN B nv ns h)
    have F2' := Lib.hid (fun W B (h : IS W B nv ns) => show Calls Tryd.prog 19 #[nv] W fun e w' => ∃ r, e = .returned (.tuple #[r, .int .i64 nm, .bool sev]) ∧ IS w' W.heap.size r nr ∧ Below W.heap.size W w' by rw [h7, hnr, hnm]; exact specNormalList_any W B nv ns h)
    clear h7 hnr hnm
    go_wp2_with fail
    refine (F1.out _ _ (N.out.below BB22.out) kn.out).mono ?_
    rintro e W23 ⟨r5, rfl, h5, b⟩
    have BB24 := Lib.hid (bel2 BB22.out b)
    have fn_24 := Lib.hid (kn.out.below b)
    clear kn
    clear BB22
    have k5 := Lib.hid h5
    clear h5 b
    go_wp2_with fail
    refine (F2'.out _ _ fn_24.out).mono ?_
    rintro e W25 ⟨r6, rfl, h6, b⟩
    have BB26 := Lib.hid (bel2 BB24.out b)
    have fn_26 := Lib.hid (fn_24.out.below b)
    clear fn_24
    have fk5_26 := Lib.hid (k5.out.below b)
    clear k5
    clear BB24
    have k6 := Lib.hid h6
    clear h6 b F1 F2'
    clear fn_26
    go_wp2_with fail
    refine (drawTropDot_any _ _ _ _ (RB.below hR'.out BB26.out) Hb1.out).mono ?_
    rintro e W27 ⟨av, az, bv, bs, rfl, ha, hb, hal, hbl, b⟩
    have BB28 := Lib.hid (bel2 BB26.out b)
    have fk5_28 := Lib.hid (fk5_26.out.below b)
    clear fk5_26
    have fk6_28 := Lib.hid (k6.out.below b)
    clear k6
    clear BB26
    have ka := Lib.hid ha
    have kb := Lib.hid hb
    clear ha hb hal hbl b
    obtain ⟨nin, h9⟩ : ∃ z, z = tDotB az bs := ⟨_, rfl⟩
    obtain ⟨dt, hdt⟩ : ∃ z, z = tDot az bs := ⟨_, rfl⟩
    have G1 := Lib.hid (fun W B B' (hN : Neut W) (h : IS W B av az) (h' : IS W B' bv bs) => show Calls Tryd.prog 21 #[av, bv] W fun e w' => e = .returned (.tuple #[.int .i64 dt, .bool nin]) ∧ Below W.heap.size W w' by rw [h9, hdt]; exact implTropDot_any W hN B B' av bv az bs h h')
    have G2 := Lib.hid (fun W B B' (h : IS W B av az) (h' : IS W B' bv bs) => show Calls Tryd.prog 22 #[av, bv] W fun e w' => e = .returned (.tuple #[.int .i64 dt, .bool nin]) ∧ W = w' by rw [h9, hdt]; exact specTropDot_any W B B' av bv az bs h h')
    have G3 := Lib.hid (fun W B B' (hN : Neut W) (h : IS W B av az) (h' : IS W B' bv bs) => show Calls Tryd.prog 21 #[bv, av] W fun e w' => e = .returned (.tuple #[.int .i64 dt, .bool nin]) ∧ Below W.heap.size W w' by rw [h9, hdt, ← (dot_comm az bs).1, ← (dot_comm az bs).2]; exact implTropDot_any W hN B' B bv av bs az h' h)
    clear h9 hdt
    obtain ⟨A6, cap6', e6, -, -⟩ := IS.parts fk5_28.out
    obtain ⟨A7, cap7', e7, -, -⟩ := IS.parts fk6_28.out
    subst e6
    subst e7
    go_wp2_with fail
    refine (G1.out _ _ _ (N.out.below BB28.out) ka.out kb.out).mono ?_
    rintro e W29 ⟨rfl, b⟩
    have BB30 := Lib.hid (bel2 BB28.out b)
    have fk5_30 := Lib.hid (fk5_28.out.below b)
    clear fk5_28
    have fk6_30 := Lib.hid (fk6_28.out.below b)
    clear fk6_28
    have fa_30 := Lib.hid (ka.out.below b)
    clear ka
    have fb_30 := Lib.hid (kb.out.below b)
    clear kb
    clear BB28
    clear b
    go_wp2_with fail
    refine (G2.out _ _ _ fa_30.out fb_30.out).mono ?_
    rintro e w' ⟨rfl, rfl⟩
    go_wp2_with fail
    refine (sameInts_same _ _ _ _ _ _ fk5_30.out fk6_30.out).mono ?_
    rintro e W31 ⟨rfl, n, hn⟩
    have b : Below W29.heap.size W29 W31 := by rw [hn]; exact belN (Below.refl _ _) n
    clear hn
    have BB32 := Lib.hid (bel2 BB30.out b)
    have fk5_32 := Lib.hid (fk5_30.out.below b)
    clear fk5_30
    have fk6_32 := Lib.hid (fk6_30.out.below b)
    clear fk6_30
    have fa_32 := Lib.hid (fa_30.out.below b)
    clear fa_30
    have fb_32 := Lib.hid (fb_30.out.below b)
    clear fb_30
    clear BB30
    clear b
    clear G1 G2
    cases sev
    · clear HZ
      cases nin
      · clear G3
        go_wp2_with fail
        go_ret
        exact ⟨rfl, BB32.out⟩
      · go_wp2_with fail
        refine (G3.out _ _ _ (N.out.below BB32.out) fa_32.out fb_32.out).mono ?_
        rintro e W33 ⟨rfl, b⟩
        have BB34 := Lib.hid (bel2 BB32.out b)
        have fk5_34 := Lib.hid (fk5_32.out.below b)
        clear fk5_32
        have fk6_34 := Lib.hid (fk6_32.out.below b)
        clear fk6_32
        have fa_34 := Lib.hid (fa_32.out.below b)
        clear fa_32
        have fb_34 := Lib.hid (fb_32.out.below b)
        clear fb_32
        clear BB32
        clear b
        go_wp2_with fail
        go_ret
        exact ⟨rfl, BB34.out⟩
    · obtain ⟨z1, z2⟩ := HZ.out (by first | rfl | trivial)
      have H1 := Lib.hid (fun W B v (hN : Neut W) (h : IS W B v nr) => show Calls Tryd.prog 8 #[v] W fun e w' => e = .returned (.tuple #[.int .i64 0, .bool true]) ∧ W = w' by have := implTropSumOf_any W hN B v nr h; rwa [z1, z2] at this)
      clear HZ z1 z2
      go_wp2_with fail
      refine (H1.out _ _ _ (N.out.below BB32.out) fk5_32.out).mono ?_
      rintro e w' ⟨rfl, rfl⟩
      clear H1
      cases nin
      · clear G3
        go_wp2_with fail
        go_ret
        exact ⟨rfl, BB32.out⟩
      · go_wp2_with fail
        refine (G3.out _ _ _ (N.out.below BB32.out) fa_32.out fb_32.out).mono ?_
        rintro e W33 ⟨rfl, b⟩
        have BB34 := Lib.hid (bel2 BB32.out b)
        have fk5_34 := Lib.hid (fk5_32.out.below b)
        clear fk5_32
        have fk6_34 := Lib.hid (fk6_32.out.below b)
        clear fk6_32
        have fa_34 := Lib.hid (fa_32.out.below b)
        clear fa_32
        have fb_34 := Lib.hid (fb_32.out.below b)
        clear fb_32
        clear BB32
        clear b
        go_wp2_with fail
        go_ret
        exact ⟨rfl, BB34.out⟩
end Go.Proofs.YtiopinhdfoinoacDoor.fnLists
