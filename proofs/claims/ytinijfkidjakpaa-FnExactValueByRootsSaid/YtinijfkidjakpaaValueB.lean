/-
  Values at fractions in the model: what each call returns.
  Conditions: the slice reads as the list that is named, a polynomial where it says so.
-/
import Derived.Test.YtinijfkidjakpaaValue
namespace Go.Proofs.Ytinijfkidjakpaa
set_option linter.unusedSimpArgs false
set_option linter.unusedVariables false
open Go.ChangeShapes Go.WideShapes Go.ChangeAt Go.RowKit

set_option maxHeartbeats 1000000 in
theorem frAdd_lim (a b c d : Int) (w : World) (ha : Lim a) (hb : Lim b) (hc : Lim c) (hd : Lim d) : Calls Try.prog 51 #[fracV a b, fracV c d] w fun x w' => GivesF (mkN (a * d + c * b) (b * d)) (mkD (a * d + c * b) (b * d)) (mkB (a * d + c * b) (b * d)) w x w' := by
  obtain ⟨p1, p2⟩ := mul9 ha hd
  obtain ⟨q1, q2⟩ := mul9 hc hb
  obtain ⟨r1, r2⟩ := mul9 hb hd
  obtain ⟨s1, s2⟩ := mul9 ha hc
  obtain ⟨t1, t2⟩ := mul9 hb hc
  clear ha hb hc hd
  go_enter Try.func51, Try.ntmps51
  go_wp2_with fail
  refine (frMake_any _ _ _ ?_ ?_).mono ?_
  · unfold wide; omega
  · unfold wide; omega
  rintro x w1 ⟨rfl, b1⟩
  have C0 := (box3 w a b c d).2.2.below b1
  obtain ⟨c0, c1, f0, f1⟩ := C0
  go_wp2_with fail
  refine bodyPost_ret ((F2.store ⟨c0, c1, f0, f1⟩ _ _).results rfl rfl rfl) rfl ?_
  exact ⟨rfl, bel_at (by omega) (by go_grown) b1 _ _⟩
theorem mk_lim (n d : Int) : Lim (mkN n d) ∧ Lim (mkD n d) := by
  cases h : mkB n d
  · obtain ⟨e1, e2⟩ := mk_none h; rw [e1, e2]; unfold Lim; omega
  · exact frB_lim (mk_parts h).2.1
theorem cmp_neg {a b : Int} (h : a < b) : cmpI a b < 0 := by unfold cmpI; rw [if_pos h]; omega
theorem cmp_nneg {a b : Int} (h : ¬ a < b) : ¬ cmpI a b < 0 := by unfold cmpI; rw [if_neg h]; split <;> omega
set_option maxHeartbeats 1000000 in
set_option maxRecDepth 100000 in
theorem specValueAtFrac_any (w : World) (B : Nat) (v : Value) (zs : List Int) (a b : Int) (h : IS w B v zs) : Calls Try.prog 26 #[v, fracV a b] w fun e w' => GivesF (vaR zs a b).2.1 (vaR zs a b).2.2 (vaR zs a b).1 w e w' := by
  have hI : IS ((w.alloc (.cells #[.int .i64 a, .int .i64 b] 38)).alloc (.cells #[.int .i64 0, .int .i64 0] 38)) B v zs := (h.alloc _).alloc _
  have h34 := box2 w a b 0 0
  have b00 : Below w.heap.size w ((w.alloc (.cells #[.int .i64 a, .int .i64 b] 38)).alloc (.cells #[.int .i64 0, .int .i64 0] 38)) := by go_grown
  have H := Lib.hid (And.intro hI h34)
  have HP := Lib.hid h.parts
  have HL := Lib.hid (show ∀ g, v.ownBlock = some g → g < w.heap.size from fun g hg => (h.lt g hg).2)
  clear hI h34 h
  obtain ⟨A, cap, hv, -, hp⟩ := HP.out
  subst hv
  have HP := Lib.hid hp
  clear hp
  cases hz : poB zs
  · have HQ := Lib.hid (vaR_no (tm_no1 (a := a) (b := b) hz))
    have HZ := Lib.hid hz
    go_enter Try.func26, Try.ntmps26
    go_wp2_with fail
    refine (poGood_any _ B _ zs H.out.1).mono ?_
    rintro e w' ⟨rfl, rfl⟩
    rw [HZ.out]
    go_wp2
    go_returns
    exact givesF_eq HQ.out b00
  · cases hf : frB a b
    · have HQ := Lib.hid (vaR_no (tm_no2 (zs := zs) hf))
      have HZ := Lib.hid hz
      have HF := Lib.hid hf
      go_enter Try.func26, Try.ntmps26
      go_wp2_with fail
      refine (poGood_any _ B _ zs H.out.1).mono ?_
      rintro e w' ⟨rfl, rfl⟩
      rw [HZ.out]
      go_wp2_with fail
      refine (frGood_any _ _ _).mono ?_
      rintro e w1 ⟨rfl, b1⟩
      rw [HF.out]
      obtain ⟨c0, c1, f0, f1⟩ := H.out.2.2.below b1
      go_wp2_with fail
      refine bodyPost_ret ((F2.store ⟨c0, c1, f0, f1⟩ _ _).results rfl rfl rfl) rfl ?_
      exact givesF_eq HQ.out (((bel2 b00 b1).setCell (by simp) _).setCell (by simp) _)
    · have HQ := Lib.hid (vaR_yes (tm_yes hz hf))
      have HZ := Lib.hid hz
      have HF := Lib.hid hf
      have hl := (po_parts hz).2.2.1
      clear hz hf
      go_enter Try.func26, Try.ntmps26
      go_wp2_with fail
      refine (poGood_any _ B _ zs H.out.1).mono ?_
      rintro e w' ⟨rfl, rfl⟩
      rw [HZ.out]
      go_wp2_with fail
      refine (frGood_any _ _ _).mono ?_
      rintro e w1 ⟨rfl, b1⟩
      rw [HF.out]
      go_wp2_with fail
      refine (rtPoints_any _ B _ zs ((H.out.1.below b1).alloc _) hl).mono ?_
      rintro e w2 ⟨r, rfl, hr, b2⟩
      have s1 : w.heap.size + 1 < w1.heap.size := by have := b1.size; simp at this; omega
      have s2 : w1.heap.size < w2.heap.size := by have := b2.size; simp at this; omega
      have B1 := bel2 b00 b1
      have B2 : Below w.heap.size w w2 := bel2 (B1.alloc B1.size _) b2
      have h3 : F2 w2 w.heap.size a b := ((H.out.2.1.below b1).old _).below b2
      have h4 : F2 w2 (w.heap.size + 1) 0 0 := ((H.out.2.2.below b1).old _).below b2
      have h6 : F2 w2 w1.heap.size 0 0 := (F2.new w1 0 0).below b2
      obtain ⟨ps, hps⟩ : ∃ ps, ps = pts zs zs.length := ⟨_, rfl⟩
      rw [← hps] at hr
      have HS := Lib.hid hps
      have HV := Lib.hid (show vaR zs a b = vfF zs a b ps 0 0 by rw [HQ.out, hps])
      have hlp := hr.lt
      have hpl : ps.length ≤ 13 := by rw [hps]; exact Nat.le_trans (pts_len _ _) hl
      obtain ⟨A2, cap2, rfl, -, hp2⟩ := hr.parts
      have HP2 := Lib.hid hp2
      have HLP := Lib.hid (show ∀ g, A2 = some ⟨g, 0, none⟩ → w1.heap.size < g from fun g hg => by subst hg; have := (hlp g rfl).1; simp at this; omega)
      have HH := Lib.hid (And.intro h3 (And.intro h4 h6))
      have HB2 := Lib.hid B2
      clear hps hp2 hr h3 h4 b1 b2 B1 hlp
      obtain ⟨n, hn⟩ : ∃ n, n = ps.length := ⟨_, rfl⟩
      rw [← hn] at hpl ⊢
      have HN := Lib.hid hn
      clear hn
      go_wp2
      go_loopw [25] (fun i wr => ∃ (k : Nat) (s t : Int), k ≤ n ∧ i = .int .i64 k ∧ F2 wr w1.heap.size s t ∧ St0 k s t ∧ Hid (vfF zs a b (ps.drop k) s t = vaR zs a b) ∧ w2.grownBy wr (some w1.heap.size)) (fun i _ => n - (intOf i).toNat)
      case atStart => exact ⟨0, 0, 0, by omega, rfl, HH.out.2.2, .inl ⟨rfl, rfl, rfl⟩, Lib.hid (by rw [HV.out]; rfl), World.grownBy.refl _ _⟩
      case round =>
        obtain ⟨k, s, t, hk, rfl, h6r, hst, hvf, hg⟩ := hrel
        clear h6
        have h3 : F2 wr w.heap.size a b := HH.out.1.grown hg (some_ne (by omega))
        have h4 : F2 wr (w.heap.size + 1) 0 0 := HH.out.2.1.grown hg (some_ne (by omega))
        have s3 : w2.heap.size ≤ wr.heap.size := hg.size
        by_cases hlt : k < n
        · obtain ⟨e, he, hel, he1, he2⟩ := pts_at HZ.out (n := k) (by rw [← HS.out, ← HN.out]; exact hlt)
          rw [← HS.out] at he
          obtain ⟨gp, rfl, cp0⟩ := HP2.out k (by rw [← HN.out]; exact hlt)
          have hgp := HLP.out gp rfl
          have cp := hg.cell cp0 (some_ne (by show gp ≠ w1.heap.size; omega))
          rw [he] at cp
          obtain ⟨g, rfl, ce0⟩ := HP.out e hel
          have hgw := HL.out g rfl
          have ce := hg.cell ((HB2.out.cell hgw).trans ce0) (some_ne (by show g ≠ w1.heap.size; omega))
          clear cp0 ce0
          obtain ⟨x, hx⟩ : ∃ x, x = gd zs e := ⟨_, rfl⟩
          have hpv : pv zs (gd ps k) = x := by rw [he, hx]; simp [pv]
          rw [← hx] at ce he1 he2
          obtain ⟨hst0, hf0⟩ : (adB x 1 (e : Int) a b = true → frB (adN x 1 e a b) (adD x 1 e a b) = true) ∧ (adB x 1 (e : Int) a b = false → vaR zs a b = (false, 0, 0)) :=
            ⟨fun hm => (ad_parts hm).2.2.2, fun hm => by rw [← hvf.out]; exact vf_bad (by rw [← HN.out]; exact hlt) (by rw [hpv, he]; exact hm)⟩
          have hn1 : k = 0 → adB x 1 (e : Int) a b = true → vfF zs a b (ps.drop (k + 1)) (adN x 1 e a b) (adD x 1 e a b) = vaR zs a b := fun hk0 hm => by
            rcases hst with ⟨-, -, ht⟩ | ⟨h0, -⟩
            · rw [← hvf.out, ht, vf_first (by rw [← HN.out]; exact hlt) (by rw [hpv, he]; exact hm), hpv, he]
            · omega
          have hn2 : 0 < k → adB x 1 (e : Int) a b = true → frB s t = true ∧ vfF zs a b (ps.drop (k + 1)) (mnN s t (adN x 1 e a b) (adD x 1 e a b)) (mnD s t (adN x 1 e a b) (adD x 1 e a b)) = vaR zs a b := fun hk0 hm => by
            rcases hst with ⟨h0, -, -⟩ | ⟨-, hv⟩
            · omega
            · exact ⟨hv, by rw [← hvf.out, vf_more (by rw [← HN.out]; exact hlt) (frB_den hv) (by rw [hpv, he]; exact hm), hpv, he]⟩
          have hMu : ∀ W, Calls Try.prog 49 #[fracV (e : Int) 1, fracV a b] W fun y w' => GivesF (mkN ((e : Int) * a) (1 * b)) (mkD ((e : Int) * a) (1 * b)) (mkB ((e : Int) * a) (1 * b)) W y w' :=
            fun W => frMul_any e 1 a b W (frB_one (by omega)) HF.out
          have hAd : ∀ W, Calls Try.prog 51 #[fracV (mkN ((e : Int) * a) (1 * b)) (mkD ((e : Int) * a) (1 * b)), fracV x 1] W fun y w' => GivesF (mkN (x * mkD ((e : Int) * a) (1 * b) + mkN ((e : Int) * a) (1 * b) * 1) (1 * mkD ((e : Int) * a) (1 * b))) (mkD (x * mkD ((e : Int) * a) (1 * b) + mkN ((e : Int) * a) (1 * b) * 1) (1 * mkD ((e : Int) * a) (1 * b))) (mkB (x * mkD ((e : Int) * a) (1 * b) + mkN ((e : Int) * a) (1 * b) * 1) (1 * mkD ((e : Int) * a) (1 * b))) W y w' := fun W => by
            have := frAdd_lim (mkN ((e : Int) * a) (1 * b)) (mkD ((e : Int) * a) (1 * b)) x 1 W (mk_lim _ _).1 (mk_lim _ _).2 (by unfold Lim; omega) (by unfold Lim; omega)
            rwa [Int.add_comm (mkN ((e : Int) * a) (1 * b) * 1), Int.mul_comm (mkD ((e : Int) * a) (1 * b)) 1] at this
          have hmm : mkB ((e : Int) * a) (1 * b) = false → adB x 1 e a b = false := fun hm => by unfold adB; rw [hm]; rfl
          have hmt : mkB ((e : Int) * a) (1 * b) = true → mkN (x * mkD ((e : Int) * a) (1 * b) + mkN ((e : Int) * a) (1 * b) * 1) (1 * mkD ((e : Int) * a) (1 * b)) = adN x 1 e a b ∧ mkD (x * mkD ((e : Int) * a) (1 * b) + mkN ((e : Int) * a) (1 * b) * 1) (1 * mkD ((e : Int) * a) (1 * b)) = adD x 1 e a b ∧ mkB (x * mkD ((e : Int) * a) (1 * b) + mkN ((e : Int) * a) (1 * b) * 1) (1 * mkD ((e : Int) * a) (1 * b)) = adB x 1 e a b := fun hm => by
            unfold adN adD adB okF; rw [hm]; exact ⟨rfl, rfl, rfl⟩
          obtain ⟨X, hX⟩ : ∃ X, X = mkN ((e : Int) * a) (1 * b) := ⟨_, rfl⟩
          obtain ⟨Y, hY⟩ : ∃ Y, Y = mkD ((e : Int) * a) (1 * b) := ⟨_, rfl⟩
          obtain ⟨mm, hM⟩ : ∃ m, m = mkB ((e : Int) * a) (1 * b) := ⟨_, rfl⟩
          rw [← hX, ← hY, ← hM] at hMu
          rw [← hX, ← hY] at hAd
          rw [← hM] at hmm hmt
          rw [← hX, ← hY] at hmt
          obtain ⟨N2, hN2⟩ : ∃ N, N = mkN (x * Y + X * 1) (1 * Y) := ⟨_, rfl⟩
          obtain ⟨D2, hD2⟩ : ∃ N, N = mkD (x * Y + X * 1) (1 * Y) := ⟨_, rfl⟩
          obtain ⟨m2, hm2⟩ : ∃ N, N = mkB (x * Y + X * 1) (1 * Y) := ⟨_, rfl⟩
          rw [← hN2, ← hD2, ← hm2] at hAd hmt
          obtain ⟨N, hN⟩ : ∃ N, N = adN x 1 (e : Int) a b := ⟨_, rfl⟩
          obtain ⟨D, hD⟩ : ∃ D, D = adD x 1 (e : Int) a b := ⟨_, rfl⟩
          obtain ⟨m, hm⟩ : ∃ m, m = adB x 1 (e : Int) a b := ⟨_, rfl⟩
          rw [← hN, ← hD, ← hm] at hn1 hn2 hst0 hmt
          rw [← hm] at hf0 hmm
          have HMU := Lib.hid hMu
          have HAD := Lib.hid hAd
          have HMM := Lib.hid (And.intro hmm hmt)
          have HX := Lib.hid (And.intro hst0 (And.intro hf0 (And.intro hn1 hn2)))
          have hS : SP wr w.heap.size 0 1 a b := ⟨h3.1, h3.2.1⟩
          have hgr : g < wr.heap.size := cell_lt ce
          have HCE := Lib.hid ce
          have z1 : (e : Int) < (zs.length : Int) := by omega
          have z2 : (0 : Int) ≤ (e : Int) := by omega
          have HG := Lib.hid hg
          have H4 := Lib.hid h4
          have H6 := Lib.hid h6r
          clear hMu hAd hmm hmt hn1 hn2 hst0 hf0 hN hD hm hX hY hM hN2 hD2 hm2 hx hpv he hst hvf h3 hg h4 h6r ce
          go_upto_region 7 with fail
          go_cut [9, 10] (fun p q wx => ∃ h, p = .pointer (some ⟨h, 0, none⟩) ∧ wr.heap.size ≤ h ∧ q = .bool mm ∧ F2 wx h X Y ∧ Below wr.heap.size wr wx)
          case first =>
            go_region_held3 (fun w' => w'.cell? ⟨w.heap.size, 0, none⟩ = some (.int .i64 a) ∧ w'.cell? ⟨w.heap.size, 1, none⟩ = some (.int .i64 b)) (repeat' (first | with_reducible assumption | with_reducible refine SP.below ?_ b2 | with_reducible refine SP.below ?_ b1 | with_reducible refine SP.drew ?_ | with_reducible refine SP.drewN ?_ _ | with_reducible refine SP.setAt ?_ ?_ _ _ | with_reducible refine SP.setN ?_ _ (by first | omega | (simp; omega)) _ _ | with_reducible refine SP.alloc ?_ _)) (first | (go_at_call 50; refine (frInt_any _ _).mono ?_; rintro y x1 ⟨rfl, b1⟩; have k1 := cellAt b1; have k2 := frozenAt b1; first | have z1 : wr.heap.size < x1.heap.size := (by have := b1.size; simp at this; omega) | skip) | (go_at_call 49; refine (HMU.out _).mono ?_; rintro y x2 ⟨rfl, b2⟩; have k3 := cellAt b2; have k4 := frozenAt b2))
            all_goals go_wp2_with fail
            all_goals go_meet
            all_goals
              have hs1 : wr.heap.size ≤ x1.heap.size := by have := b1.size; simp at this; omega
              have hs2 : wr.heap.size ≤ x2.heap.size := by have := b2.size; (try simp at this); omega
              first
              | exact ⟨_, rfl, Nat.le_refl _, rfl, (((F2.new wr 0 0).drew.below b1).below b2).store _ _, ((bel2 (bel2 (((Below.refl wr.heap.size wr).alloc (Nat.le_refl _) _).drew) b1) b2).setCell (Nat.le_refl _) _).setCell (Nat.le_refl _) _⟩
              | exact ⟨_, rfl, hs1, rfl, ((F2.new x1 0 0).below b2).store _ _, ((bel2 ((bel2 (Below.refl wr.heap.size wr).drew b1).alloc hs1 _) b2).setCell hs1 _).setCell hs1 _⟩
              | exact ⟨_, rfl, hs2, rfl, F2.new _ _ _, (bel2 (bel2 (Below.refl wr.heap.size wr).drew b1) b2).alloc hs2 _⟩
          case rest =>
            obtain ⟨h, rfl, hh, rfl, H9, b0⟩ := hcut
            have hS8 : ST wc g e x h X Y := ⟨(b0.cell (p := ⟨g, e, none⟩) hgr).trans HCE.out, H9.1, H9.2.1⟩
            have hg := Lib.grownBy_trans HG.out (grown_bel b0 (some w1.heap.size))
            have h4 := H4.out.below b0
            have h6 := H6.out.below b0
            have HG2 := Lib.hid hg
            have H42 := Lib.hid h4
            have H62 := Lib.hid h6
            have sc := b0.size
            clear hS cp hg h4 h6 H9 HG H4 H6 HCE b0
            go_upto_region 8 with fail
            go_cut [11, 12] (fun p q wx => ∃ h, p = .pointer (some ⟨h, 0, none⟩) ∧ wc.heap.size ≤ h ∧ q = .bool m2 ∧ F2 wx h N2 D2 ∧ Below wc.heap.size wc wx)
            case first =>
              go_region_held3 (fun w' => w'.cell? ⟨g, e, none⟩ = some (.int .i64 x) ∧ w'.cell? ⟨h, 0, none⟩ = some (.int .i64 X) ∧ w'.cell? ⟨h, 1, none⟩ = some (.int .i64 Y)) (repeat' (first | with_reducible assumption | with_reducible refine ST.below ?_ b2 | with_reducible refine ST.below ?_ b1 | with_reducible refine ST.drew ?_ | with_reducible refine ST.drewN ?_ _ | with_reducible refine ST.setAt ?_ ?_ _ _ | with_reducible refine ST.setN ?_ _ (by first | omega | (simp; omega)) (by first | omega | (simp; omega)) _ _ | with_reducible refine ST.alloc ?_ _)) (first | (go_at_call 50; refine (frInt_any _ _).mono ?_; rintro y x1 ⟨rfl, b1⟩; have k1 := cellAt b1; have k2 := frozenAt b1; first | have z1 : wc.heap.size < x1.heap.size := (by have := b1.size; simp at this; omega) | skip) | (go_at_call 51; refine (HAD.out _).mono ?_; rintro y x2 ⟨rfl, b2⟩; have k3 := cellAt b2; have k4 := frozenAt b2))
              all_goals go_wp2_with fail
              all_goals go_meet
              all_goals
                have hs1 : wc.heap.size ≤ x1.heap.size := by have := b1.size; simp at this; omega
                have hs2 : wc.heap.size ≤ x2.heap.size := by have := b2.size; (try simp at this); omega
                first
                | exact ⟨_, rfl, Nat.le_refl _, rfl, (((F2.new wc 0 0).drew.below b1).below b2).store _ _, ((bel2 (bel2 (((Below.refl wc.heap.size wc).alloc (Nat.le_refl _) _).drew) b1) b2).setCell (Nat.le_refl _) _).setCell (Nat.le_refl _) _⟩
                | exact ⟨_, rfl, hs1, rfl, ((F2.new x1 0 0).below b2).store _ _, ((bel2 ((bel2 (Below.refl wc.heap.size wc).drew b1).alloc hs1 _) b2).setCell hs1 _).setCell hs1 _⟩
                | exact ⟨_, rfl, hs2, rfl, F2.new _ _ _, (bel2 (bel2 (Below.refl wc.heap.size wc).drew b1) b2).alloc hs2 _⟩
            case rest =>
              obtain ⟨h', rfl, hh', rfl, H11, b0⟩ := hcut
              have hg := Lib.grownBy_trans HG2.out (grown_bel b0 (some w1.heap.size))
              have h4 := H42.out.below b0
              have h6 := H62.out.below b0
              have hne : ¬ h' = w1.heap.size := by omega
              have HGG := Lib.hid hg
              have sd := b0.size
              clear hS8 hg HG2 H42 H62
              cases mm
              · have HV0 := Lib.hid (HX.out.2.1 (HMM.out.1 rfl))
                obtain ⟨c0, c1, f0, f1⟩ := h4
                clear h6 H11
                go_wp2_with fail
                refine bodyPost_ret ((F2.store ⟨c0, c1, f0, f1⟩ _ _).results rfl rfl rfl) rfl ?_
                exact givesF_eq HV0.out (((bel_var HB2.out HGG.out (by omega) (by omega)).setCell (by simp) _).setCell (by simp) _)
              · obtain ⟨rfl, rfl, rfl⟩ := HMM.out.2 rfl
                cases m2
                · have HV0 := Lib.hid (HX.out.2.1 rfl)
                  obtain ⟨c0, c1, f0, f1⟩ := h4
                  clear h6 H11
                  go_wp2_with fail
                  refine bodyPost_ret ((F2.store ⟨c0, c1, f0, f1⟩ _ _).results rfl rfl rfl) rfl ?_
                  exact givesF_eq HV0.out (((bel_var HB2.out HGG.out (by omega) (by omega)).setCell (by simp) _).setCell (by simp) _)
                · have HV := Lib.hid (HX.out.1 rfl)
                  by_cases hk0 : k = 0
                  · have HN1 := Lib.hid (HX.out.2.2.1 hk0 rfl)
                    subst hk0
                    obtain ⟨c0, c1, f0, f1⟩ := h6
                    obtain ⟨d0, d1, f2, f3⟩ := H11
                    clear h4
                    go_wp2
                    go_roundw
                    case rel => exact ⟨1, N2, D2, by omega, by go_num, F2.store ⟨c0, c1, f0, f1⟩ _ _, .inr ⟨by omega, HV.out⟩, HN1, grown_two HGG.out _ _⟩
                    case measure => simp [intOf]; omega
                  · have hk1 : 0 < k := by omega
                    have HN2 := Lib.hid (HX.out.2.2.2 hk1 rfl)
                    obtain ⟨c0, c1, f0, f1⟩ := h6
                    obtain ⟨d0, d1, f2, f3⟩ := H11
                    have hk2 : ((k : Int) == 0) = false := by simp; omega
                    have H6C := Lib.hid (show F2 wc w1.heap.size s t from ⟨c0, c1, f0, f1⟩)
                    have H9C := Lib.hid (show F2 wc h' N2 D2 from ⟨d0, d1, f2, f3⟩)
                    clear h4
                    by_cases key : N2 * t < s * D2
                    · have hc := cmp_neg key
                      have HM := Lib.hid (show mnN s t N2 D2 = N2 ∧ mnD s t N2 D2 = D2 from ⟨if_neg (by omega), if_neg (by omega)⟩)
                      obtain ⟨c, hce⟩ : ∃ c, c = cmpI (N2 * t) (s * D2) := ⟨_, rfl⟩
                      rw [← hce] at hc
                      have HC := Lib.hid hce
                      clear hce key
                      go_wp2_with fail
                      refine (frCmp_any _ _ _ _ _ HV.out HN2.out.1).mono ?_
                      rw [← HC.out]
                      rintro y w4 ⟨rfl, b4⟩
                      obtain ⟨c0, c1, f0, f1⟩ := H6C.out.below b4
                      obtain ⟨d0, d1, -, -⟩ := H9C.out.below b4
                      have HGB := Lib.hid (Lib.grownBy_trans HGG.out (grown_bel b4 (some w1.heap.size)))
                      go_wp2
                      go_roundw
                      case rel => exact ⟨k + 1, N2, D2, by omega, by go_num, F2.store ⟨c0, c1, f0, f1⟩ _ _, .inr ⟨by omega, HV.out⟩, Lib.hid (by have := HN2.out.2; rwa [HM.out.1, HM.out.2] at this), grown_two HGB.out _ _⟩
                      case measure => simp [intOf]; omega
                    · have hc := cmp_nneg key
                      have HM := Lib.hid (show mnN s t N2 D2 = s ∧ mnD s t N2 D2 = t from ⟨if_pos (by omega), if_pos (by omega)⟩)
                      obtain ⟨c, hce⟩ : ∃ c, c = cmpI (N2 * t) (s * D2) := ⟨_, rfl⟩
                      rw [← hce] at hc
                      have HC := Lib.hid hce
                      clear hce key
                      go_wp2_with fail
                      refine (frCmp_any _ _ _ _ _ HV.out HN2.out.1).mono ?_
                      rw [← HC.out]
                      rintro y w4 ⟨rfl, b4⟩
                      have HGB := Lib.hid (Lib.grownBy_trans HGG.out (grown_bel b4 (some w1.heap.size)))
                      go_wp2
                      go_roundw
                      case rel => exact ⟨k + 1, s, t, by omega, by go_num, H6C.out.below b4, .inr ⟨by omega, HN2.out.1⟩, Lib.hid (by have := HN2.out.2; rwa [HM.out.1, HM.out.2] at this), HGB.out⟩
                      case measure => simp [intOf]; omega
        · obtain rfl : k = n := by omega
          obtain ⟨c0, c1, f0, f1⟩ := h4
          obtain ⟨d0, d1, -, -⟩ := h6r
          have hV := hvf.out
          rw [vf_end _ _ _ _ _ (by rw [← HN.out]; omega)] at hV
          have HV3 := Lib.hid hV
          clear hV hvf
          go_wp2_with fail
          refine bodyPost_ret ((F2.store ⟨c0, c1, f0, f1⟩ _ _).results rfl rfl rfl) rfl ?_
          exact givesF_eq HV3.out.symm (((bel_var HB2.out hg (by omega) (by omega)).setCell (by simp) _).setCell (by simp) _)
end Go.Proofs.Ytinijfkidjakpaa
