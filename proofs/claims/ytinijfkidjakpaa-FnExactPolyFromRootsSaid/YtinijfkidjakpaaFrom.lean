/-
  Polynomials of given roots, in the program: what the call returns.
  Condition: the slice reads as the list that is named.
-/
import Derived.Test.YtinijfkidjakpaaFromM
import Derived.Test.YtinijfkidjakpaaSortB
import Derived.Test.YtinijfkidjakpaaLeast
namespace Go.Proofs.Ytinijfkidjakpaa
set_option linter.unusedSimpArgs false
set_option linter.unusedVariables false
open Go.ChangeShapes Go.WideShapes Go.ChangeAt Go.RowKit

theorem pf_no1 {lead : Int} {zs : List Int} (h : ¬ zs.length ≤ 12) : pfOk lead zs = false := by simp [pfOk, pfIn, h]
theorem pf_no2 {lead : Int} {zs : List Int} (h : finB lead = false) : pfOk lead zs = false := by simp [pfOk, pfIn, h]
theorem pf_no3 {lead : Int} {zs : List Int} (h : zs.all finB = false) : pfOk lead zs = false := by simp [pfOk, pfIn, h]
theorem pf_yes {lead : Int} {zs : List Int} (h1 : zs.length ≤ 12) (h2 : finB lead = true) (h3 : zs.all finB = true) : pfIn lead zs = true := by simp [pfIn, h1, h2, h3]
set_option maxHeartbeats 1000000 in
set_option maxRecDepth 100000 in
theorem implPolyFromRoots_any (w : World) (B : Nat) (v : Value) (lead : Int) (zs : List Int) (h : IS w B v zs) : Calls Try.prog 38 #[.int .i64 lead, v] w fun e w' => GivesIB (pfOk lead zs) (pfR lead zs) w e w' := by
  have H := Lib.hid h
  obtain ⟨A, cap, rfl, hm, hp⟩ := h.parts
  unfold maxLen at hm
  have HP := Lib.hid hp
  clear hp h
  obtain ⟨n, hn⟩ : ∃ n, n = zs.length := ⟨_, rfl⟩
  rw [← hn] at hm ⊢
  have HN := Lib.hid hn
  by_cases h12 : n ≤ 12
  · cases hf : finB lead
    · have HQ := Lib.hid (pf_no2 (zs := zs) hf)
      have HF := Lib.hid hf
      clear hn
      go_enter Try.func38, Try.ntmps38
      go_wp2_with fail
      refine (isFin_any _ _).mono ?_
      rintro e w' ⟨rfl, rfl⟩
      rw [HF.out]
      go_wp2
      go_ret2
      exact givesIB_nil HQ.out (pfR_no HQ.out) (Below.refl _ _)
    · have HF := Lib.hid hf
      have HIN := Lib.hid (fun h3 => pf_yes (lead := lead) (zs := zs) (by rw [← hn]; exact h12) hf h3)
      obtain ⟨i0, hi, hz0, hz1, hz2⟩ := info_parts infoInt
      clear hn hf
      go_enter Try.func38, Try.ntmps38
      go_wp2_with fail
      refine (isFin_any _ _).mono ?_
      rintro e w' ⟨rfl, rfl⟩
      rw [HF.out]
      go_wp2
      go_loop [23] (fun i => ∃ k : Nat, k ≤ n ∧ i = .int .i64 k ∧ Hid ((zs.take k).all finB = true)) (fun i => n - (intOf i).toNat)
      case atStart => exact ⟨0, by omega, rfl, Lib.hid rfl⟩
      case round =>
        obtain ⟨k, hk, rfl, hall⟩ := hrel
        by_cases hlt : k < n
        · obtain ⟨g, rfl, hc⟩ := HP.out k (by rw [← HN.out]; exact hlt)
          cases hq : finB (gd zs k)
          · have HQ := Lib.hid hq
            have HB := Lib.hid (pf_no3 (lead := lead) (fin_bad zs k (by rw [← HN.out]; exact hlt) hq))
            clear hq
            go_wp2_with fail
            refine (isFin_any _ _).mono ?_
            rintro e w' ⟨rfl, rfl⟩
            rw [HQ.out]
            go_wp2
            go_ret2
            exact givesIB_nil HB.out (pfR_no HB.out) (Below.refl _ _)
          · have HQ := Lib.hid hq
            have HA := Lib.hid (fin_next zs k (by rw [← HN.out]; exact hlt) hall.out hq)
            clear hq
            go_wp2_with fail
            refine (isFin_any _ _).mono ?_
            rintro e w' ⟨rfl, rfl⟩
            rw [HQ.out]
            go_wp2
            go_round
            case rel => exact ⟨k + 1, by omega, by go_num, HA⟩
            case measure => simp [intOf]; omega
        · have hin := HIN.out (fin_end zs k (by rw [← HN.out]; omega) hall.out)
          have HI := Lib.hid hin
          have HPO := Lib.hid (po_pf hin)
          have HEND := Lib.hid (show rowK lead (sortL zs) n (n + 1) = pfL lead zs by rw [HN.out]; exact rowK_end lead zs)
          clear hin hall
          go_wp2_with fail
          refine (slicesClone_any _ _ _ zs (by have := H.out; rw [← HN.out] at this; exact this) (by rw [← HN.out]; omega)).mono ?_
          rintro e w1 ⟨rs, rfl, hrs, b1⟩
          go_wp2_with fail
          refine (slicesSort_any _ _ _ zs hrs (by rw [← HN.out]; exact h12)).mono ?_
          rintro e w2 ⟨rfl, hso, hg2⟩
          have hB2 : Below w.heap.size w w2 := b1.grown hg2 b1.size (fun g hg => (hrs.lt g hg).1)
          have hs2 := hB2.size
          obtain ⟨S, hS⟩ : ∃ S, S = sortL zs := ⟨_, rfl⟩
          have HSL := Lib.hid (show S.length = n by rw [hS, sortL_len, HN.out])
          have HSF := Lib.hid (show ∀ k, k < n → (-1000000 ≤ gd S k ∧ gd S k ≤ 1000000) ∧ sm lead S (k + 1) = sm lead S k + gd S k from fun k hk => by
            rw [hS]
            exact ⟨sort_fin (pf_in HI.out).2.1 (by rw [← HN.out]; exact hk), sm_next (by rw [sortL_len, ← HN.out]; exact hk)⟩)
          have HSB := Lib.hid (show ∀ k, k ≤ n → -13000000 ≤ sm lead S k ∧ sm lead S k ≤ 13000000 from fun k hk => by
            have := sm_bd HI.out k (by rw [← HN.out]; exact hk)
            rw [hS]; omega)
          rw [← hS] at hso HEND
          clear hS hrs hg2 b1
          obtain ⟨A3, cap3, rfl, -, hp3⟩ := hso.parts
          rw [HSL.out] at hp3 ⊢
          have HP3 := Lib.hid hp3
          have hlb := hso.lt
          clear hso hp3
          go_wp2_with (
            refine wpList_make_full _ rfl _ _ 22 rfl w.heap.size 3 i0 (.int .i64 0) 1 Try.underlying22 hi hz0 hz1 .i64 .i64 _ _ (n + 1) rfl rfl (by first | rfl | go_num) (by first | rfl | go_num) (by rw [hz2]; omega) (by simp only [maxLen]; omega) hs2 ?_
            intro w3 hown hgrow
            have hrow0 : Row w3 w.heap.size w2.heap.size (n + 1) (rowK lead S n 0) := by
              rw [show (madeCells (Value.int .i64 0).cells ((n + 1) * 1)).toList = ints (rowK lead S n 0) from by
                rw [Nat.mul_one, rowK_zero]
                exact (toList_madeCells_one (.int .i64 0) (n + 1)).trans (by simp [ints])] at hown
              exact hown
            have hb3 : Below w2.heap.size w2 w3 := (Below.refl _ _).grown hgrow (Nat.le_refl _) (fun _ h => by cases h)
            have hl3 : w2.heap.size < w3.heap.size := (World.ownsRow.lt hrow0 w2.heap.size rfl).2
            have HLB := Lib.hid (show ∀ g, A3 = some ⟨g, 0, none⟩ → g < w2.heap.size from fun g hg => by subst hg; exact (hlb g rfl).2)
            have hf := World.ownsRow.frozenAt hrow0 n
            have hc2 := World.ownsRow.cellAt hrow0 n (by omega)
            rw [getD_ints _ n (by rw [rowK_len]; omega)] at hc2
            have hst := hrow0.store n lead
            rw [show (rowK lead S n 0).set n lead = rowK lead S n 1 by
              have := rowK_set (lead := lead) (s := S) (n := n) (k := 0) (by omega)
              rwa [Nat.sub_zero, sm_zero] at this] at hst
            have HST := Lib.hid hst
            have HGS := Lib.hid (Lib.grownBy_trans (grown_bel hb3 (some w2.heap.size)) (grown_set w3 w2.heap.size n (.int .i64 lead)))
            have HB2 := Lib.hid hB2
            have hlead := (pf_in HI.out).1
            clear hown hgrow hrow0 hst hlb hb3 hB2)
          go_loopw [10, 47] (fun c i wr => ∃ k : Nat, k ≤ n ∧ i = .int .i64 k ∧ c = .int .i64 (sm lead S k) ∧ Row wr w.heap.size w2.heap.size (n + 1) (rowK lead S n (k + 1)) ∧ w2.grownBy wr (some w2.heap.size)) (fun _ i _ => n - (intOf i).toNat)
          case atStart => exact ⟨0, by omega, rfl, by rw [sm_zero], HST.out, HGS.out⟩
          case round =>
            obtain ⟨k2, hk2, rfl, rfl, hrow, hg⟩ := hrel
            clear hf hc2
            by_cases hlt2 : k2 < n
            · obtain ⟨hb1, hb2⟩ := HSF.out k2 hlt2
              have hb3 := HSB.out k2 (by omega)
              have hb4 := HSB.out (k2 + 1) (by omega)
              obtain ⟨g3, rfl, c0⟩ := HP3.out k2 hlt2
              have hg3 := HLB.out g3 rfl
              have c1 := hg.cell c0 (some_ne (by show g3 ≠ w2.heap.size; omega))
              have hf := World.ownsRow.frozenAt hrow (n - 1 - k2)
              have hc2 := World.ownsRow.cellAt hrow (n - 1 - k2) (by omega)
              rw [getD_ints _ (n - 1 - k2) (by rw [rowK_len]; omega)] at hc2
              have hst := hrow.store (n - 1 - k2) (sm lead S (k2 + 1))
              rw [show (rowK lead S n (k2 + 1)).set (n - 1 - k2) (sm lead S (k2 + 1)) = rowK lead S n (k2 + 1 + 1) by
                have := rowK_set (lead := lead) (s := S) (n := n) (k := k2 + 1) (by omega)
                rwa [show n - (k2 + 1) = n - 1 - k2 by omega] at this] at hst
              have HST2 := Lib.hid hst
              have HG2 := Lib.hid (Lib.grownBy_trans hg (grown_set wr w2.heap.size (n - 1 - k2) (.int .i64 (sm lead S (k2 + 1)))))
              obtain ⟨a, ha⟩ : ∃ a, a = sm lead S k2 := ⟨_, rfl⟩
              obtain ⟨b, hb⟩ : ∃ a, a = gd S k2 := ⟨_, rfl⟩
              obtain ⟨c, hc⟩ : ∃ a, a = sm lead S (k2 + 1) := ⟨_, rfl⟩
              rw [← ha] at hb2 hb3 ⊢
              rw [← hb] at hb1 hb2 c1
              rw [← hc] at hb2 hb4 HST2 HG2
              have q1 : IntKind.i64.wrap (a + b) = c := by rw [hb2]; exact IntWalk.i64_in _ (by omega)
              have q1' : a + b = c := hb2.symm
              have q2 : IntKind.i64.wrap ((n : Int) - 1) = ((n - 1 : Nat) : Int) := by rw [IntWalk.i64_in _ (by omega)]; omega
              have q2' : (n : Int) - 1 = ((n - 1 : Nat) : Int) := by omega
              have q3 : IntKind.i64.wrap (((n - 1 : Nat) : Int) - (k2 : Int)) = ((n - 1 - k2 : Nat) : Int) := by rw [IntWalk.i64_in _ (by omega)]; omega
              have q3' : ((n - 1 : Nat) : Int) - (k2 : Int) = ((n - 1 - k2 : Nat) : Int) := by omega
              have lz : n - 1 - k2 < n + 1 := by omega
              have HC := Lib.hid hc
              clear ha hb hc hb2 hst hg hrow
              go_wp2
              go_roundw
              case rel => exact ⟨k2 + 1, by omega, by go_num, by rw [HC.out], HST2.out, HG2.out⟩
              case measure => simp [intOf]; omega
            · have hkn : k2 = n := by omega
              have hrow2 := hrow
              rw [hkn, HEND.out] at hrow2
              have hIS : IS wr w.heap.size (.slice (some ⟨w2.heap.size, 0, none⟩) (n + 1) (n + 1)) (pfL lead zs) := by
                unfold IS
                rw [pfL_len, ← HN.out]
                exact hrow2
              have HISX := Lib.hid hIS
              have hbx := bel_var HB2.out hg hs2 hs2
              have HBX := Lib.hid hbx
              clear hIS hbx hrow hrow2 hg
              cases ha : pfAll lead zs
              · have HA := Lib.hid ha
                have HO := Lib.hid (show pfOk lead zs = false by unfold pfOk; rw [ha, Bool.and_false])
                clear ha
                go_wp2_with fail
                refine (isPoly_any _ _ _ _ HISX.out).mono ?_
                rintro e w' ⟨rfl, rfl⟩
                rw [HPO.out, HA.out]
                go_wp2
                go_ret2
                exact givesIB_nil HO.out (pfR_no HO.out) HBX.out
              · have HA := Lib.hid ha
                have HO := Lib.hid (show pfOk lead zs = true by unfold pfOk; rw [ha, HI.out]; rfl)
                clear ha
                go_wp2_with fail
                refine (isPoly_any _ _ _ _ HISX.out).mono ?_
                rintro e w' ⟨rfl, rfl⟩
                rw [HPO.out, HA.out]
                go_wp2
                go_ret2
                exact givesIB_yes HO.out (by rw [pfR_yes HO.out]; exact HISX.out) HBX.out
  · have HQ := Lib.hid (pf_no1 (lead := lead) (zs := zs) (by rw [← hn]; exact h12))
    clear hn
    have h13 : 12 < n := by omega
    go_enter Try.func38, Try.ntmps38
    go_wp2
    go_ret2
    exact givesIB_nil HQ.out (pfR_no HQ.out) (Below.refl _ _)
end Go.Proofs.Ytinijfkidjakpaa
