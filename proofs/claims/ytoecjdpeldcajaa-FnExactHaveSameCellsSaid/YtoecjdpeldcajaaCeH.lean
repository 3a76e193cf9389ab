/-
  HaveSameCells of the program and of the model.
  Condition: the slices read as the lists that are named.
-/
import Derived.Test.YtoecjdpeldcajaaCePg
namespace Go.Proofs.Ytoecjdpeldcajaa
set_option linter.unusedSimpArgs false
set_option linter.unusedVariables false
open Go.ChangeShapes Go.WideShapes Go.ChangeAt Go.RowKit
open Go.Sort (grow)

def hsB (a b : List Tm) : Bool := plB a && plB b
def hsR (a b : List Tm) : Bool := hsB a b && (decide (ptsL a = ptsL b) && decide (ceL a = ceL b))
theorem hsB_no1 {a b : List Tm} (h : plB a = false) : hsB a b = false ∧ hsR a b = false := by unfold hsR hsB; rw [h]; exact ⟨rfl, rfl⟩
theorem hsB_no2 {a b : List Tm} (h : plB b = false) : hsB a b = false ∧ hsR a b = false := by unfold hsR hsB; rw [h, Bool.and_false]; exact ⟨rfl, rfl⟩
theorem hsB_yes {a b : List Tm} (h : plB a = true) (h' : plB b = true) : hsB a b = true ∧ hsR a b = (decide (ptsL a = ptsL b) && decide (ceL a = ceL b)) := by unfold hsR hsB; rw [h, h']; exact ⟨rfl, rfl⟩
theorem lls_same {P Q : VL} {n : Nat} (hP : n = P.length) (hQ : n = Q.length) (h : ∀ m, m < n → pll P m = pll Q m) : lls P = lls Q := by
  apply List.ext_getElem (by rw [lls_len, lls_len, ← hP, ← hQ])
  intro k h1 h2
  have k1 : k < P.length := by rw [← lls_len]; exact h1
  have k2 : k < Q.length := by rw [← lls_len]; exact h2
  rw [lls_get k1 h1, lls_get k2 h2]
  exact h k (by omega)
theorem same_lls {P Q : VL} (h : lls P = lls Q) {k : Nat} (hk : k < P.length) (hk' : k < Q.length) : pll P k = pll Q k := by
  rw [pll_get rfl hk, pll_get rfl hk', h]
set_option maxHeartbeats 2000000 in
set_option maxRecDepth 100000 in
theorem specHaveSameCells_any (w : World) (B B' : Nat) (v v' : Value) (a b : List Tm) (h : TmS w B v a) (h' : TmS w B' v' b) : Calls Try.prog 41 #[v, v'] w fun e w' => SaysBB (hsR a b) (hsB a b) w e w' := by
  cases ha : plB a
  · have HA := Lib.hid ha
    have HN := Lib.hid (hsB_no1 (b := b) ha)
    clear ha
    go_enter Try.func41, Try.ntmps41
    go_wp2_with fail
    refine (plGood_any _ B _ a h).mono ?_
    rintro e w1 ⟨rfl, b1⟩
    rw [HA.out]
    go_wp2
    go_ret2
    exact ⟨ret_bb HN.out.2.symm HN.out.1.symm, b1⟩
  · have HA := Lib.hid ha
    clear ha
    cases hb : plB b
    · have HBF := Lib.hid hb
      have HN := Lib.hid (hsB_no2 (a := a) hb)
      clear hb
      go_enter Try.func41, Try.ntmps41
      go_wp2_with fail
      refine (plGood_any _ B _ a h).mono ?_
      rintro e w1 ⟨rfl, b1⟩
      rw [HA.out]
      have h1 := FS.below h' b1
      go_wp2_with fail
      refine (plGood_any _ B' _ b h1).mono ?_
      rintro e w2 ⟨rfl, b2⟩
      rw [HBF.out]
      go_wp2
      go_ret2
      exact ⟨ret_bb HN.out.2.symm HN.out.1.symm, bel2 b1 b2⟩
    · have HBT := Lib.hid hb
      have HY := Lib.hid (hsB_yes HA.out hb)
      clear hb
      go_enter Try.func41, Try.ntmps41
      go_wp2_with fail
      refine (plGood_any _ B _ a h).mono ?_
      rintro e w1 ⟨rfl, b1⟩
      rw [HA.out]
      go_wp2_with fail
      refine (plGood_any _ B' _ b (FS.below h' b1)).mono ?_
      rintro e w2 ⟨rfl, b2⟩
      rw [HBT.out]
      have hb2 := bel2 b1 b2
      have h2 := FS.below h hb2
      have h2' := FS.below h' hb2
      clear h h' b1 b2
      go_wp2_with fail
      refine (ceOf_any w2 B _ a h2 HA.out).mono ?_
      rintro e w3 ⟨ra, P, rfl, hP, eP, b3⟩
      have h3 := FS.below h2 b3
      have h3' := FS.below h2' b3
      clear h2 h2'
      go_wp2_with fail
      refine (ceOf_any w3 B' _ b h3' HBT.out).mono ?_
      rintro e w4 ⟨rb, Q, rfl, hQ, eQ, b4⟩
      have h4 := FS.below h3 b4
      have h4' := FS.below h3' b4
      have hP4 := hP.below b4
      clear h3 h3' hP
      go_wp2_with fail
      refine (plPoints_any w4 B _ a h4 (by have := (plB_le HA.out).2; omega)).mono ?_
      rintro e w5 ⟨r5, rfl, hr5, b5⟩
      have h5' := FS.below h4' b5
      clear h4 h4'
      go_wp2_with fail
      refine (plPoints_any w5 B' _ b h5' (by have := (plB_le HBT.out).2; omega)).mono ?_
      rintro e w6 ⟨r6, rfl, hr6, b6⟩
      have hr5' := FS.below hr5 b6
      clear h5' hr5
      go_wp2_with fail
      refine (pySame_any w6 _ _ _ _ _ _ hr5' hr6).mono ?_
      rintro e w7 ⟨rfl, b7⟩
      have b47 := bel2 b5 (bel2 b6 b7)
      have hP7 := hP4.below b47
      have hQ7 := hQ.below b47
      have HB := Lib.hid (bel2 (bel2 (bel2 hb2 b3) b4) b47)
      obtain ⟨A, cap, rfl, hm, hp⟩ := hP7.parts
      obtain ⟨A', cap', rfl, hm', hp'⟩ := hQ7.parts
      have HP := Lib.hid hp
      have HQ := Lib.hid hp'
      have HVP := Lib.hid hP7.2
      have HVQ := Lib.hid hQ7.2
      have EP := Lib.hid eP
      have EQ := Lib.hid eQ
      obtain ⟨n, hn⟩ : ∃ n, n = P.length := ⟨_, rfl⟩
      obtain ⟨n', hn'⟩ : ∃ n', n' = Q.length := ⟨_, rfl⟩
      have HN := Lib.hid hn
      have HN' := Lib.hid hn'
      rw [← hn] at hm ⊢
      rw [← hn'] at hm' ⊢
      unfold maxLen at hm hm'
      clear hr5' hr6 b5 b6 b7 b47 b3 b4 hb2 hP4 hQ hP7 hQ7 hp hp' eP eQ hn hn'
      cases hs : decide (ptsL a = ptsL b)
      · have HF := Lib.hid (show hsR a b = false from HY.out.2.trans (by rw [hs]; rfl))
        clear hs
        go_wp2
        go_ret2
        exact ⟨ret_bb HF.out.symm HY.out.1.symm, HB.out⟩
      · have HF := Lib.hid (show hsR a b = decide (lls P = lls Q) from HY.out.2.trans (by rw [hs, Bool.true_and, EP.out, EQ.out]))
        clear hs
        by_cases hl : n = n'
        · subst hl
          go_wp2
          go_loopw [37] (fun i wr => ∃ k : Nat, k ≤ n ∧ i = .int .i64 k ∧ Hid (∀ m, m < k → pll P m = pll Q m) ∧ ∃ q, wr = w7.drewN q) (fun i _ => n - (intOf i).toNat)
          case atStart => exact ⟨0, by omega, rfl, Lib.hid (fun m hm => absurd hm (Nat.not_lt_zero m)), 0, rfl⟩
          case round =>
            obtain ⟨k, hk, rfl, hall, q, rfl⟩ := hrel
            by_cases hlt : k < n
            · have hkp : k < P.length := by rw [← HN.out]; exact hlt
              have hkq : k < Q.length := by rw [← HN'.out]; exact hlt
              obtain ⟨g, rfl, hc⟩ := HP.out k hkp
              obtain ⟨g', rfl, hc'⟩ := HQ.out k hkq
              have bD : Below w7.heap.size w7 (w7.drewN q) := belN (Below.refl _ _) q
              have i1 := (HVP.out.at hkp).below bD
              have i2 := (HVQ.out.at hkq).below bD
              obtain ⟨x, hx⟩ : ∃ x, x = pvl P k := ⟨_, rfl⟩
              obtain ⟨y, hy⟩ : ∃ y, y = pvl Q k := ⟨_, rfl⟩
              rw [← hx] at hc i1
              rw [← hy] at hc' i2
              clear hx hy bD
              go_wp2_with fail
              refine (l1Same_any _ _ _ _ _ _ _ i1 i2).mono ?_
              rintro e w8 ⟨rfl, q2, rfl⟩
              cases he : decide (pll P k = pll Q k)
              · have HE := Lib.hid (show hsR a b = false from HF.out.trans (decide_eq_false (fun e => of_decide_eq_false he (same_lls e hkp hkq))))
                clear hc hc' i1 i2 he
                go_wp2
                go_ret2
                exact ⟨ret_bb HE.out.symm HY.out.1.symm, belN HB.out _⟩
              · have HE := Lib.hid (show ∀ m, m < k + 1 → pll P m = pll Q m from fun m hm => by
                  rcases Nat.lt_succ_iff_lt_or_eq.1 hm with h | rfl
                  · exact hall.out m h
                  · exact of_decide_eq_true he)
                clear hc hc' i1 i2 he
                go_wp2
                go_roundw
                case rel => exact ⟨k + 1, by omega, by go_num, HE, _, rfl⟩
                case measure => simp [intOf]; omega
            · obtain rfl : k = n := by omega
              have HE := Lib.hid (show hsR a b = true from HF.out.trans (decide_eq_true (lls_same HN.out HN'.out hall.out)))
              go_wp2
              go_ret2
              exact ⟨ret_bb HE.out.symm HY.out.1.symm, belN HB.out _⟩
        · have HE := Lib.hid (show hsR a b = false from HF.out.trans (decide_eq_false (fun e => hl (by
            have := congrArg List.length e
            rw [lls_len, lls_len] at this
            rw [HN.out, HN'.out]; exact this))))
          have hl' : ¬ ((n : Int) = (n' : Int)) := by omega
          go_wp2
          go_ret2
          exact ⟨ret_bb HE.out.symm HY.out.1.symm, HB.out⟩
theorem ent_sameX : ∀ (args : Array Value) (w : World), (callFunc 68 args).run Try.prog w = .ok (.enter 68 args) w := enters_of Try.func68 (by kernel_rfl) rfl
theorem pts_end {a b : List Tm} {n : Nat} (ha : n = a.length) (hb : n = b.length) (h : ∀ m, m < n → sameTB (td a m) (td b m) = true) : ptsL a = ptsL b := by
  apply List.ext_getElem (by rw [ptsL_len, ptsL_len, ← ha, ← hb])
  intro k h1 h2
  rw [ptsL_len] at h1 h2
  have := h k (by omega)
  rw [sameTB_iff] at this
  unfold Same at this
  rw [td_eq a k h1, td_eq b k h2] at this
  simp only [ptsL, List.getElem_map]
  exact Prod.ext this.1 this.2
theorem pts_at {a b : List Tm} (h : ptsL a = ptsL b) {m : Nat} (ha : m < a.length) (hb : m < b.length) : sameTB (td a m) (td b m) = true := by
  rw [sameTB_iff]
  unfold Same
  have h1 : (ptsL a)[m]'(by rw [ptsL_len]; exact ha) = (ptsL b)[m]'(by rw [ptsL_len]; exact hb) := by simp only [h]
  simp only [ptsL, List.getElem_map] at h1
  rw [td_eq a m ha, td_eq b m hb]
  exact Prod.mk.inj h1
set_option maxHeartbeats 2000000 in
set_option maxRecDepth 100000 in
theorem equalTerms_any (w : World) (B B' : Nat) (v v' : Value) (a b : List Tm) (h : TmS w B v a) (h' : TmS w B' v' b) : Calls Try.prog 67 #[v, v', .func (.func 68) #[] #[]] w fun e w' => e = .returned (.bool (decide (ptsL a = ptsL b))) ∧ Below w.heap.size w w' := by
  have eg := ent_sameX
  obtain ⟨A, cap, rfl, hm, hp⟩ := TmS.parts h
  obtain ⟨A', cap', rfl, hm', hp'⟩ := TmS.parts h'
  have HP := Lib.hid hp
  have HQ := Lib.hid hp'
  obtain ⟨n, hn⟩ : ∃ n, n = a.length := ⟨_, rfl⟩
  obtain ⟨n', hn'⟩ : ∃ n', n' = b.length := ⟨_, rfl⟩
  have HN := Lib.hid hn
  have HN' := Lib.hid hn'
  rw [← hn] at hm ⊢
  rw [← hn'] at hm' ⊢
  unfold maxLen at hm hm'
  clear h h' hp hp' hn hn'
  by_cases hl : n = n'
  · subst hl
    go_enter Try.func67, Try.ntmps67
    go_wp2
    go_loopw [17] (fun i wr => ∃ k : Nat, k ≤ n ∧ i = .int .i64 k ∧ Hid (∀ m, m < k → sameTB (td a m) (td b m) = true) ∧ Below w.heap.size w wr) (fun i _ => n - (intOf i).toNat)
    case atStart => exact ⟨0, by omega, rfl, Lib.hid (fun m hm => absurd hm (Nat.not_lt_zero m)), Below.refl _ _⟩
    case round =>
      obtain ⟨k, hk, rfl, hall, hb⟩ := hrel
      by_cases hlt : k < n
      · have hka : k < a.length := by rw [← HN.out]; exact hlt
        have hkb : k < b.length := by rw [← HN'.out]; exact hlt
        obtain ⟨g, rfl, hc0⟩ := HP.out k hka
        obtain ⟨g', rfl, hd0⟩ := HQ.out k hkb
        obtain ⟨c0, c1, c2⟩ := X3.below hc0 hb
        obtain ⟨d0, d1, d2⟩ := X3.below hd0 hb
        have l0 := cell_lt d0
        obtain ⟨s, hs⟩ : ∃ s, s = td a k := ⟨_, rfl⟩
        obtain ⟨t, ht⟩ : ∃ t, t = td b k := ⟨_, rfl⟩
        have HS := Lib.hid hs
        have HT := Lib.hid ht
        rw [← hs] at c0 c1 c2
        rw [← ht] at d0 d1 d2
        clear hc0 hd0 hs ht
        cases he : sameTB s t
        · have HE := Lib.hid (show decide (ptsL a = ptsL b) = false from decide_eq_false (fun e => by
            have := pts_at e hka hkb
            rw [← HS.out, ← HT.out, he] at this
            cases this))
          go_wp2_with (first | (go_at_fn 68; refine (haveSame_any s t _).mono ?_; rintro e w3 ⟨rfl, hg⟩; rw [he]))
          have hb' := bel2 (belA1 (belA1 hb _) _) hg.below
          go_ret
          exact ⟨ret_bool HE.out.symm, hb'⟩
        · have HE := Lib.hid (show ∀ m, m < k + 1 → sameTB (td a m) (td b m) = true from fun m hm => by
            rcases Nat.lt_succ_iff_lt_or_eq.1 hm with h | rfl
            · exact hall.out m h
            · rw [← HS.out, ← HT.out]; exact he)
          go_wp2_with (first | (go_at_fn 68; refine (haveSame_any s t _).mono ?_; rintro e w3 ⟨rfl, hg⟩; rw [he]))
          have hb' := bel2 (belA1 (belA1 hb _) _) hg.below
          go_roundw
          case rel => exact ⟨k + 1, by omega, by go_num, HE, hb'⟩
          case measure => simp [intOf]; omega
      · obtain rfl : k = n := by omega
        have HE := Lib.hid (show decide (ptsL a = ptsL b) = true from decide_eq_true (pts_end HN.out HN'.out hall.out))
        go_wp2
        go_ret
        exact ⟨ret_bool HE.out.symm, hb⟩
  · have HE := Lib.hid (show decide (ptsL a = ptsL b) = false from decide_eq_false (fun e => hl (by
      have := congrArg List.length e
      rw [ptsL_len, ptsL_len] at this
      rw [HN.out, HN'.out]; exact this)))
    have hl' : ¬ ((n : Int) = (n' : Int)) := by omega
    go_enter Try.func67, Try.ntmps67
    go_wp2
    go_ret
    exact ⟨ret_bool HE.out.symm, Below.refl _ _⟩
theorem slicesEqualC_any (w : World) (B B' : Nat) (v v' : Value) (zs ys : List Int) (h : IS w B v zs) (h' : IS w B' v' ys) : Calls Try.prog 70 #[v, v'] w fun e w' => SaysB (decide (zs = ys)) w e w' := by
  obtain ⟨A, cap, rfl, hm, hp⟩ := h.parts
  obtain ⟨A', cap', rfl, hm', hp'⟩ := h'.parts
  unfold maxLen at hm hm'
  have HP := Lib.hid hp
  have HP' := Lib.hid hp'
  clear hp hp' h h'
  cases hl : (zs.length : Int) != (ys.length : Int)
  · have hle : zs.length = ys.length := by simp at hl; omega
    have HL := Lib.hid hle
    have hl1 : zs.length ≤ ys.length := by omega
    have hl2 : ys.length ≤ zs.length := by omega
    clear hle
    go_enter Try.func70, Try.ntmps70
    go_wp2
    clear hl
    go_loopw [13] (fun i wr => ∃ k : Nat, k ≤ zs.length ∧ i = .int .i64 k ∧ Hid (zs.take k = ys.take k) ∧ ∃ n, wr = w.drewN n) (fun i _ => zs.length - (intOf i).toNat)
    case atStart => exact ⟨0, by omega, rfl, Lib.hid rfl, 0, rfl⟩
    case round =>
      obtain ⟨k, hk, rfl, heq, n, rfl⟩ := hrel
      by_cases hlt : k < zs.length
      · obtain ⟨g, rfl, hc⟩ := HP.out k hlt
        obtain ⟨g', rfl, hc'⟩ := HP'.out k (by omega)
        have hlt' : k < ys.length := by omega
        cases hne : gd zs k != gd ys k
        · go_wp2
          go_quiet (fail)
          go_wp2
          go_roundw
          case rel => exact ⟨k + 1, by omega, by go_num, Lib.hid (eq_next zs ys k hlt hlt' heq.out (by simpa using hne)), _, rfl⟩
          case measure => simp [intOf]; omega
        · go_wp2
          go_quiet (fail)
          go_wp2
          go_ret
          exact ⟨ret_bool (by symm; simp only [decide_eq_false_iff_not]; exact eq_bad zs ys k (by simpa using hne)), _, World.drewN_drewN _ _ _⟩
      · go_wp2
        go_ret
        have := heq.out
        rw [show k = zs.length by omega] at this
        exact ⟨ret_bool (by simp [eq_end zs ys HL.out this]), n, rfl⟩
  · go_enter Try.func70, Try.ntmps70
    go_wp2
    go_ret
    exact ⟨ret_bool (by symm; simp at hl ⊢; rintro rfl; exact hl rfl), 0, rfl⟩
theorem ent_eqS : ∀ (args : Array Value) (w : World), (callFunc 70 args).run Try.prog w = .ok (.enter 70 args) w := enters_of Try.func70 (by kernel_rfl) rfl
set_option maxHeartbeats 2000000 in
set_option maxRecDepth 100000 in
theorem equalLists_any (w : World) (B B' : Nat) (v v' : Value) (P Q : VL) (h : LS w B v P) (h' : LS w B' v' Q) : Calls Try.prog 69 #[v, v', .func (.func 70) #[] #[]] w fun e w' => SaysB (decide (lls P = lls Q)) w e w' := by
  have eg := ent_eqS
  obtain ⟨A, cap, rfl, hm, hp⟩ := h.parts
  obtain ⟨A', cap', rfl, hm', hp'⟩ := h'.parts
  have HP := Lib.hid hp
  have HQ := Lib.hid hp'
  have HVP := Lib.hid h.2
  have HVQ := Lib.hid h'.2
  obtain ⟨n, hn⟩ : ∃ n, n = P.length := ⟨_, rfl⟩
  obtain ⟨n', hn'⟩ : ∃ n', n' = Q.length := ⟨_, rfl⟩
  have HN := Lib.hid hn
  have HN' := Lib.hid hn'
  rw [← hn] at hm ⊢
  rw [← hn'] at hm' ⊢
  unfold maxLen at hm hm'
  clear h h' hp hp' hn hn'
  by_cases hl : n = n'
  · subst hl
    go_enter Try.func69, Try.ntmps69
    go_wp2
    go_loopw [17] (fun i wr => ∃ k : Nat, k ≤ n ∧ i = .int .i64 k ∧ Hid (∀ m, m < k → pll P m = pll Q m) ∧ ∃ q, wr = w.drewN q) (fun i _ => n - (intOf i).toNat)
    case atStart => exact ⟨0, by omega, rfl, Lib.hid (fun m hm => absurd hm (Nat.not_lt_zero m)), 0, rfl⟩
    case round =>
      obtain ⟨k, hk, rfl, hall, q, rfl⟩ := hrel
      by_cases hlt : k < n
      · have hkp : k < P.length := by rw [← HN.out]; exact hlt
        have hkq : k < Q.length := by rw [← HN'.out]; exact hlt
        obtain ⟨g, rfl, hc⟩ := HP.out k hkp
        obtain ⟨g', rfl, hc'⟩ := HQ.out k hkq
        have bD : Below w.heap.size w (w.drewN q) := belN (Below.refl _ _) q
        have i1 := (HVP.out.at hkp).below bD
        have i2 := (HVQ.out.at hkq).below bD
        obtain ⟨x, hx⟩ : ∃ x, x = pvl P k := ⟨_, rfl⟩
        obtain ⟨y, hy⟩ : ∃ y, y = pvl Q k := ⟨_, rfl⟩
        rw [← hx] at hc i1
        rw [← hy] at hc' i2
        clear hx hy bD
        cases he : decide (pll P k = pll Q k)
        · have HE := Lib.hid (show decide (lls P = lls Q) = false from decide_eq_false (fun e => of_decide_eq_false he (same_lls e hkp hkq)))
          go_wp2_with (first | (go_at_fn 70; refine (slicesEqualC_any _ _ _ _ _ _ _ i1 i2).mono ?_; rintro e w8 ⟨rfl, q2, rfl⟩; rw [he]))
          go_ret
          exact ⟨ret_bool HE.out.symm, _, rfl⟩
        · have HE := Lib.hid (show ∀ m, m < k + 1 → pll P m = pll Q m from fun m hm => by
            rcases Nat.lt_succ_iff_lt_or_eq.1 hm with h | rfl
            · exact hall.out m h
            · exact of_decide_eq_true he)
          go_wp2_with (first | (go_at_fn 70; refine (slicesEqualC_any _ _ _ _ _ _ _ i1 i2).mono ?_; rintro e w8 ⟨rfl, q2, rfl⟩; rw [he]))
          go_roundw
          case rel => exact ⟨k + 1, by omega, by go_num, HE, _, rfl⟩
          case measure => simp [intOf]; omega
      · obtain rfl : k = n := by omega
        have HE := Lib.hid (show decide (lls P = lls Q) = true from decide_eq_true (lls_same HN.out HN'.out hall.out))
        go_wp2
        go_ret
        exact ⟨ret_bool HE.out.symm, _, rfl⟩
  · have HE := Lib.hid (show decide (lls P = lls Q) = false from decide_eq_false (fun e => hl (by
      have := congrArg List.length e
      rw [lls_len, lls_len] at this
      rw [HN.out, HN'.out]; exact this)))
    have hl' : ¬ ((n : Int) = (n' : Int)) := by omega
    go_enter Try.func69, Try.ntmps69
    go_wp2
    go_ret
    exact ⟨ret_bool HE.out.symm, 0, rfl⟩
set_option maxHeartbeats 2000000 in
set_option maxRecDepth 100000 in
theorem implHaveSameCells_any (w : World) (B B' : Nat) (v v' : Value) (a b : List Tm) (h : TmS w B v a) (h' : TmS w B' v' b) : Calls Try.prog 42 #[v, v'] w fun e w' => SaysBB (hsR a b) (hsB a b) w e w' := by
  go_enter Try.func42, Try.ntmps42
  go_wp2_with fail
  refine (implCellsOf_any _ B _ a h).mono ?_
  rintro e w1 ⟨ra, P, rfl, hP, eP, b1⟩
  have h1 := FS.below h b1
  have h1' := FS.below h' b1
  clear h h'
  go_wp2_with fail
  refine (implCellsOf_any _ B' _ b h1').mono ?_
  rintro e w2 ⟨rb, Q, rfl, hQ, eQ, b2⟩
  have h2 := FS.below h1 b2
  have h2' := FS.below h1' b2
  have hP2 := hP.below b2
  have hb := bel2 b1 b2
  clear h1 h1' hP b1 b2
  cases ha : plB a
  · have HN := Lib.hid (hsB_no1 (b := b) ha)
    clear ha hP2 hQ eP eQ h2 h2'
    go_wp2
    go_ret2
    exact ⟨ret_bb HN.out.2.symm HN.out.1.symm, hb⟩
  · have HA := Lib.hid ha
    cases hb' : plB b
    · have HN := Lib.hid (hsB_no2 (a := a) hb')
      clear ha hb' hP2 hQ eP eQ h2 h2'
      go_wp2
      go_ret2
      exact ⟨ret_bb HN.out.2.symm HN.out.1.symm, hb⟩
    · have HY := Lib.hid (hsB_yes HA.out hb')
      rw [ceR_yes ha] at eP
      rw [ceR_yes hb'] at eQ
      clear ha hb'
      go_wp2_with fail
      refine (equalTerms_any _ _ _ _ _ a b h2 h2').mono ?_
      rintro e w3 ⟨rfl, b3⟩
      have hP3 := hP2.below b3
      have hQ3 := hQ.below b3
      have hB := bel2 hb b3
      clear h2 h2' hP2 hQ hb b3
      cases hs : decide (ptsL a = ptsL b)
      · have HF := Lib.hid (show hsR a b = false from HY.out.2.trans (by rw [hs]; rfl))
        clear hs hP3 hQ3 eP eQ
        go_wp2
        go_ret2
        exact ⟨ret_bb HF.out.symm HY.out.1.symm, hB⟩
      · have HF := Lib.hid (show hsR a b = decide (lls P = lls Q) from HY.out.2.trans (by rw [hs, Bool.true_and, eP, eQ]))
        clear hs
        go_wp2_with fail
        refine (equalLists_any _ _ _ _ _ P Q hP3 hQ3).mono ?_
        rintro e w4 ⟨rfl, q, rfl⟩
        obtain ⟨d, hd⟩ : ∃ d, d = decide (lls P = lls Q) := ⟨_, rfl⟩
        rw [← hd] at HF ⊢
        clear hd hP3 hQ3 eP eQ
        go_wp2
        go_ret2
        exact ⟨ret_bb HF.out.symm HY.out.1.symm, belN hB _⟩
end Go.Proofs.Ytoecjdpeldcajaa
