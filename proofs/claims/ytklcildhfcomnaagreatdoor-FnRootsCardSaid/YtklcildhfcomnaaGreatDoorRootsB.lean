/-
  Lists of roots in the laws: compared, marked, read again; how often a fraction is a root.
  Conditions: the slice reads as the list that is named.
-/
import Derived.Test.YtklcildhfcomnaaGreatDoorRoots
namespace Go.Proofs.YtklcildhfcomnaaGreatDoor
set_option linter.unusedSimpArgs false
set_option linter.unusedVariables false
open Go.ChangeShapes Go.WideShapes Go.ChangeAt Go.RowKit

theorem tm_no1 {zs : List Int} {a b : Int} (h : poB zs = false) : tmB zs a b = false := by simp [tmB, h]
theorem tm_no2 {zs : List Int} {a b : Int} (h : frB a b = false) : tmB zs a b = false := by simp [tmB, h]
theorem tm_yes {zs : List Int} {a b : Int} (h : poB zs = true) (h' : frB a b = true) : tmB zs a b = true := by simp [tmB, h, h']
set_option maxHeartbeats 1000000 in
set_option maxRecDepth 100000 in
theorem specTimesOfRoot_any (w : World) (B : Nat) (v : Value) (zs : List Int) (a b : Int) (h : IS w B v zs) : Calls Tryz.prog 16 #[v, fracV a b] w fun e w' => e = .returned (.tuple #[.int .i64 (tmR zs a b), .bool (tmB zs a b)]) ∧ Below w.heap.size w w' := by
  have b0 : Below w.heap.size w (w.alloc (.cells #[.int .i64 a, .int .i64 b] 35)) := (Below.refl _ _).alloc (Nat.le_refl _) _
  have h1 : IS (w.alloc (.cells #[.int .i64 a, .int .i64 b] 35)) B v zs := h.alloc _
  have h2 := F2.new w a b
  have H := Lib.hid (And.intro h1 h2)
  clear h1 h2
  obtain ⟨A0, cap0, rfl, -, -⟩ := h.parts
  clear h
  cases hz : poB zs
  · have HQ := Lib.hid (tm_no1 (a := a) (b := b) hz)
    have HZ := Lib.hid hz
    go_enter Tryz.func16, Tryz.ntmps16
    go_wp2_with fail
    refine (poGood_any _ B _ zs H.out.1).mono ?_
    rintro e w' ⟨rfl, rfl⟩
    rw [HZ.out]
    go_wp2
    go_ret2
    exact ⟨ret_ib (tmR_no HQ.out).symm HQ.out.symm, b0⟩
  · cases hf : frB a b
    · have HQ := Lib.hid (tm_no2 (zs := zs) hf)
      have HZ := Lib.hid hz
      have HF := Lib.hid hf
      have HB := Lib.hid b0
      obtain ⟨c0, c1, -, -⟩ := H.out.2
      go_enter Tryz.func16, Tryz.ntmps16
      go_wp2_with fail
      refine (poGood_any _ B _ zs H.out.1).mono ?_
      rintro e w' ⟨rfl, rfl⟩
      rw [HZ.out]
      go_wp2_with fail
      refine (frGood_any _ _ _).mono ?_
      rintro e w1 ⟨rfl, b1⟩
      rw [HF.out]
      go_wp2
      go_ret2
      exact ⟨ret_ib (tmR_no HQ.out).symm HQ.out.symm, bel2 HB.out b1⟩
    · have HQ := Lib.hid (tm_yes hz hf)
      have HZ := Lib.hid hz
      have HF := Lib.hid hf
      have HB := Lib.hid b0
      obtain ⟨c0, c1, -, -⟩ := H.out.2
      go_enter Tryz.func16, Tryz.ntmps16
      go_wp2_with fail
      refine (poGood_any _ B _ zs H.out.1).mono ?_
      rintro e w' ⟨rfl, rfl⟩
      rw [HZ.out]
      go_wp2_with fail
      refine (frGood_any _ _ _).mono ?_
      rintro e w1 ⟨rfl, b1⟩
      rw [HF.out]
      go_wp2_with fail
      refine (rtRoots_any _ B _ zs (H.out.1.below b1) HZ.out).mono ?_
      rintro e w2 ⟨r, rfl, hr, b2⟩
      have B2 := bel2 (bel2 b0 b1) b2
      have hF := (H.out.2.below b1).below b2
      obtain ⟨A, cap, rfl, hm, hp⟩ := RS.parts hr
      have HP := Lib.hid hp
      obtain ⟨rs, hrs⟩ : ∃ rs, rs = rootsL zs := ⟨_, rfl⟩
      rw [← hrs] at HP hm
      have HR := Lib.hid (show tmR zs a b = tmO a b rs by rw [tmR_yes HQ.out, hrs])
      rw [← hrs]
      obtain ⟨n, hn⟩ : ∃ n, n = rs.length := ⟨_, rfl⟩
      have HN := Lib.hid hn
      rw [← hn] at hm ⊢
      unfold maxLen at hm
      have HB2 := Lib.hid B2
      have HF2 := Lib.hid hF
      have hg2 := cell_lt hF.1
      clear hp hn hrs hr hF c0 c1 b0 b1 b2 B2
      go_wp2
      go_loopw [19] (fun i wr => ∃ k : Nat, k ≤ n ∧ i = .int .i64 k ∧ Hid (tmO a b (rs.drop k) = tmO a b rs) ∧ Below w2.heap.size w2 wr) (fun i _ => n - (intOf i).toNat)
      case atStart => exact ⟨0, by omega, rfl, Lib.hid rfl, Below.refl _ _⟩
      case round =>
        obtain ⟨k, hk, rfl, ht, hb⟩ := hrel
        by_cases hlt : k < n
        · obtain ⟨g, rfl, a0, a1, a2⟩ := HP.out k (by rw [← HN.out]; exact hlt)
          have c0 := (hb.cell (cell_lt a0)).trans a0
          have c1 := (hb.cell (cell_lt a1)).trans a1
          have c2 := (hb.cell (cell_lt a2)).trans a2
          have hg := cell_lt c0
          obtain ⟨d0, d1, -, -⟩ := HF2.out.below hb
          have hg3 := cell_lt d0
          clear a0 a1 a2
          obtain ⟨N, D, T, hrd⟩ : ∃ N D T, rd rs k = (N, D, T) := ⟨_, _, _, rfl⟩
          have HM := Lib.hid (fun he => (tmO_miss (a := a) (b := b) (rs := rs) (k := k) (by rw [← HN.out]; exact hlt) he).symm.trans ht.out)
          have HH := Lib.hid (fun he => (tmO_hit (a := a) (b := b) (rs := rs) (k := k) (by rw [← HN.out]; exact hlt) he).symm.trans ht.out)
          rw [hrd] at c0 c1 c2 HM HH
          clear hrd
          by_cases he : N = a ∧ D = b
          · obtain ⟨rfl, rfl⟩ := he
            go_wp2
            go_ret2
            exact ⟨ret_ib ((HH.out (by simp)).trans HR.out.symm) HQ.out.symm, bel2 HB2.out (hb.alloc hb.size _)⟩
          · have HM2 := Lib.hid (HM.out (by simpa using he))
            clear HM HH
            go_wp2
            all_goals
              go_roundw
              case rel => exact ⟨k + 1, by omega, by go_num, HM2, hb.alloc hb.size _⟩
              case measure => simp [intOf]; omega
        · go_wp2
          go_ret2
          obtain rfl : k = n := by omega
          have e0 := ht.out
          rw [tmO_end _ _ _ _ (by rw [← HN.out]; omega)] at e0
          exact ⟨ret_ib (e0.trans HR.out.symm) HQ.out.symm, bel2 HB2.out hb⟩
set_option maxHeartbeats 1000000 in
set_option maxRecDepth 100000 in
theorem implTimesOfRoot_any (w : World) (B : Nat) (v : Value) (zs : List Int) (a b : Int) (h : IS w B v zs) : Calls Tryz.prog 13 #[v, fracV a b] w fun e w' => e = .returned (.tuple #[.int .i64 (tmR zs a b), .bool (tmB zs a b)]) ∧ Below w.heap.size w w' := by
  have b0 : Below w.heap.size w (w.alloc (.cells #[.int .i64 a, .int .i64 b] 35)) := (Below.refl _ _).alloc (Nat.le_refl _) _
  have h1 : IS (w.alloc (.cells #[.int .i64 a, .int .i64 b] 35)) B v zs := h.alloc _
  have h2 := F2.new w a b
  have H := Lib.hid (And.intro h1 h2)
  clear h1 h2
  obtain ⟨A0, cap0, rfl, -, -⟩ := h.parts
  clear h
  cases hz : poB zs
  · have HQ := Lib.hid (tm_no1 (a := a) (b := b) hz)
    have HZ := Lib.hid hz
    go_enter Tryz.func13, Tryz.ntmps13
    go_wp2_with fail
    refine (implRootsOf_any _ B _ zs H.out.1).mono ?_
    rintro e w1 ⟨r, rfl, -, b1⟩
    rw [HZ.out]
    go_wp2
    go_ret2
    exact ⟨ret_ib (tmR_no HQ.out).symm HQ.out.symm, bel2 b0 b1⟩
  · cases hf : frB a b
    · have HQ := Lib.hid (tm_no2 (zs := zs) hf)
      have HZ := Lib.hid hz
      have HF := Lib.hid hf
      have HB := Lib.hid b0
      go_enter Tryz.func13, Tryz.ntmps13
      go_wp2_with fail
      refine (implRootsOf_any _ B _ zs H.out.1).mono ?_
      rintro e w1 ⟨r, rfl, hr, b1⟩
      obtain ⟨c0, c1, -, -⟩ := H.out.2.below b1
      rw [HZ.out]
      go_wp2_with fail
      refine (isFrac_any _ _ _).mono ?_
      rintro e w2 ⟨rfl, b2⟩
      rw [HF.out]
      go_wp2
      go_ret2
      exact ⟨ret_ib (tmR_no HQ.out).symm HQ.out.symm, bel2 (bel2 HB.out b1) b2⟩
    · have HQ := Lib.hid (tm_yes hz hf)
      have HZ := Lib.hid hz
      have HF := Lib.hid hf
      have HB := Lib.hid b0
      go_enter Tryz.func13, Tryz.ntmps13
      go_wp2_with fail
      refine (implRootsOf_any _ B _ zs H.out.1).mono ?_
      rintro e w1 ⟨r, rfl, hr0, b1⟩
      rw [rootsR_yes HZ.out] at hr0
      obtain ⟨c0, c1, -, -⟩ := H.out.2.below b1
      rw [HZ.out]
      go_wp2_with fail
      refine (isFrac_any _ _ _).mono ?_
      rintro e w2 ⟨rfl, b2⟩
      rw [HF.out]
      have hr := FS.below hr0 b2
      have B2 := bel2 (bel2 b0 b1) b2
      have hF := (H.out.2.below b1).below b2
      clear hr0
      obtain ⟨A, cap, rfl, hm, hp⟩ := RS.parts hr
      have HP := Lib.hid hp
      obtain ⟨rs, hrs⟩ : ∃ rs, rs = rootsL zs := ⟨_, rfl⟩
      rw [← hrs] at HP hm
      have HR := Lib.hid (show tmR zs a b = tmO a b rs by rw [tmR_yes HQ.out, hrs])
      rw [← hrs]
      obtain ⟨n, hn⟩ : ∃ n, n = rs.length := ⟨_, rfl⟩
      have HN := Lib.hid hn
      rw [← hn] at hm ⊢
      unfold maxLen at hm
      have HB2 := Lib.hid B2
      have HF2 := Lib.hid hF
      have hg2 := cell_lt hF.1
      clear hp hn hrs hr hF c0 c1 b0 b1 b2 B2
      go_wp2
      go_loopw [24] (fun i wr => ∃ k : Nat, k ≤ n ∧ i = .int .i64 k ∧ Hid (tmO a b (rs.drop k) = tmO a b rs) ∧ Below w2.heap.size w2 wr) (fun i _ => n - (intOf i).toNat)
      case atStart => exact ⟨0, by omega, rfl, Lib.hid rfl, Below.refl _ _⟩
      case round =>
        obtain ⟨k, hk, rfl, ht, hb⟩ := hrel
        by_cases hlt : k < n
        · obtain ⟨g, rfl, a0, a1, a2⟩ := HP.out k (by rw [← HN.out]; exact hlt)
          have c0 := (hb.cell (cell_lt a0)).trans a0
          have c1 := (hb.cell (cell_lt a1)).trans a1
          have c2 := (hb.cell (cell_lt a2)).trans a2
          have hg := cell_lt c0
          obtain ⟨d0, d1, -, -⟩ := HF2.out.below hb
          have hg3 := cell_lt d0
          clear a0 a1 a2
          obtain ⟨N, D, T, hrd⟩ : ∃ N D T, rd rs k = (N, D, T) := ⟨_, _, _, rfl⟩
          have HM := Lib.hid (fun he => (tmO_miss (a := a) (b := b) (rs := rs) (k := k) (by rw [← HN.out]; exact hlt) he).symm.trans ht.out)
          have HH := Lib.hid (fun he => (tmO_hit (a := a) (b := b) (rs := rs) (k := k) (by rw [← HN.out]; exact hlt) he).symm.trans ht.out)
          rw [hrd] at c0 c1 c2 HM HH
          clear hrd
          by_cases he : N = a ∧ D = b
          · obtain ⟨rfl, rfl⟩ := he
            go_wp2
            go_ret2
            exact ⟨ret_ib ((HH.out (by simp)).trans HR.out.symm) HQ.out.symm, bel2 HB2.out (hb.alloc hb.size _)⟩
          · have HM2 := Lib.hid (HM.out (by simpa using he))
            clear HM HH
            go_wp2
            all_goals
              go_roundw
              case rel => exact ⟨k + 1, by omega, by go_num, HM2, hb.alloc hb.size _⟩
              case measure => simp [intOf]; omega
        · go_wp2
          go_ret2
          obtain rfl : k = n := by omega
          have e0 := ht.out
          rw [tmO_end _ _ _ _ (by rw [← HN.out]; omega)] at e0
          exact ⟨ret_ib (e0.trans HR.out.symm) HQ.out.symm, bel2 HB2.out hb⟩
end Go.Proofs.YtklcildhfcomnaaGreatDoor
