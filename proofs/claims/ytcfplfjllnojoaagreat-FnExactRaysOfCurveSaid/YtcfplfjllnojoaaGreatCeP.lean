/-
  The model of cells, third part: a list put into lists in order.
  Conditions: the slices read as the lists that are named; the lists are in order.
-/
import Derived.Test.YtcfplfjllnojoaaGreatSl
import Derived.Test.YtcfplfjllnojoaaGreatCeS
import Derived.Deep.RegionHeld3
namespace Go.Proofs.YtcfplfjllnojoaaGreat
set_option linter.unusedSimpArgs false
set_option linter.unusedVariables false
open Go.ChangeShapes Go.WideShapes Go.ChangeAt Go.RowKit
open Go.Sort (grow)

/-- What putting a list into lists gives. -/
def GivesPut (x : Value) (zs : List Int) (B : Nat) (P : VL) (w : World) (e : Ending) (w' : World) : Prop :=
  ∃ r P', e = .returned r ∧ LS w' B r P' ∧ lls P' = putX lxL zs (lls P) ∧ (P'.length = 0 → r = .slice none 0 0) ∧ (∀ p ∈ P', p = (x, zs) ∨ p ∈ P) ∧ Below w.heap.size w w'
theorem lls_put (P : VL) (x : Value) (zs : List Int) (k : Nat) : lls (P.take k ++ (x, zs) :: P.drop k) = (lls P).take k ++ zs :: (lls P).drop k := by simp [lls, List.map_take, List.map_drop]
theorem vls_put (P : VL) (x : Value) (zs : List Int) (k : Nat) : vls (P.take k ++ (x, zs) :: P.drop k) = [] ++ (vls P).take k ++ [x] ++ (vls P).drop k := by simp [vls, List.map_take, List.map_drop]
/-- The place that the search finds. -/
theorem putS_at {P : VL} {zs : List Int} {k : Nat} (hlow : ∀ j, j < k → j < P.length ∧ lxL (pll P j) zs = true) (hk : k ≤ P.length) (hend : k < P.length → lxL (pll P k) zs = false) :
    putX lxL zs (lls P) = if k < P.length ∧ pll P k = zs then lls P else (lls P).take k ++ zs :: (lls P).drop k := by
  have hb : befX lxL zs (lls P) = k := befX_step zs (lls P) k (fun j hj hl => by
      have h := hlow j hj
      rw [lls_get h.1 hl]; exact h.2) (by rw [lls_len]; exact hk) (by
      rcases Nat.lt_or_ge k P.length with h | h
      · exact .inr ⟨by rw [lls_len]; exact h, by rw [lls_get h]; exact hend h⟩
      · exact .inl (by rw [lls_len]; omega))
  rw [putX_at totLx, hb]
  by_cases h : k < P.length
  · rw [lls_at h]
    by_cases h2 : pll P k = zs
    · simp [h, h2]
    · simp [h, h2]
  · rw [List.getElem?_eq_none (by rw [lls_len]; omega)]; simp [h]
theorem put_end {w w1 w3 : World} {B k m : Nat} {r x : Value} {P : VL} {zs : List Int} (hV : LV w B P) (hx : IS w B x zs) (hd : ∀ p ∈ P, ∀ g, p.1.ownBlock = some g → x.ownBlock ≠ some g) (hB : B ≤ w1.heap.size) (hbw : Below w.heap.size w w1)
    (hk : k ≤ P.length) (hm : m = P.length - k) (hput : putX lxL zs (lls P) = (lls P).take k ++ zs :: (lls P).drop k)
    (hown : w3.ownsRow w1.heap.size 36 1 r (0 + k + 1 + m) ([] ++ (vls P).take k ++ [x] ++ (vls P).drop k)) (hb : Below w1.heap.size w1 w3) : GivesPut x zs B P w (.returned r) w3 := by
  have hb3 := bel2 hbw hb
  refine ⟨r, P.take k ++ (x, zs) :: P.drop k, rfl, ⟨?_, (hV.put hx hd k).below hb3⟩, by rw [lls_put, hput], fun h => by simp at h, fun p hp => ?_, hb3⟩
  · rw [vls_put, show (P.take k ++ (x, zs) :: P.drop k).length = 0 + k + 1 + m by simp; omega]
    exact sl_base hown hB
  · rw [List.mem_append, List.mem_cons] at hp
    rcases hp with hp | rfl | hp
    · exact .inr (List.mem_of_mem_take hp)
    · exact .inl rfl
    · exact .inr (List.mem_of_mem_drop hp)
set_option maxHeartbeats 4000000 in
set_option maxRecDepth 100000 in
theorem cePut_any (w : World) (B : Nat) (v x : Value) (P : VL) (zs : List Int) (h : LS w B v P) (hB : B ≤ w.heap.size) (hnil : P.length = 0 → v = .slice none 0 0) (hx : IS w B x zs)
    (hd : ∀ p ∈ P, ∀ g, p.1.ownBlock = some g → x.ownBlock ≠ some g) (hz : P.length ≤ 100000) : Calls Tryz.prog 35 #[v, x] w fun e w' => GivesPut x zs B P w e w' := by
  have H0 := Lib.hid h
  have HX := Lib.hid hx
  have HNIL := Lib.hid hnil
  have HD := Lib.hid hd
  obtain ⟨A, cap, rfl, hm, hp⟩ := LS.parts h
  have HP := Lib.hid hp
  obtain ⟨Ax, cx, hxv, -, -⟩ := hx.parts
  obtain ⟨nx, hnx⟩ : ∃ nx, nx = zs.length := ⟨_, rfl⟩
  rw [← hnx] at hxv
  subst hxv
  obtain ⟨n, hn⟩ : ∃ n, n = P.length := ⟨_, rfl⟩
  have HN := Lib.hid hn
  have HB := Lib.hid (fun (k : Nat) (hk : k < P.length) W (hb : Below w.heap.size w W) => ceBefore_any W B B _ _ _ _ ((h.2.at hk).below hb) (HX.out.below hb))
  have HS := Lib.hid (fun (k : Nat) (hk : k < P.length) W (hb : Below w.heap.size w W) => l1Same_any W B B _ _ _ _ ((h.2.at hk).below hb) (HX.out.below hb))
  have hbB := Lib.hid hB
  rw [← hn] at hm hz ⊢
  clear hp h hn hm hnil hx hd hnx hB
  go_enter Tryz.func35, Tryz.ntmps35
  go_wp2
  go_loopw [5] (fun i wr => ∃ k : Nat, k ≤ n ∧ i = .int .i64 k ∧ Hid (∀ j, j < k → j < P.length ∧ lxL (pll P j) zs = true) ∧ w = wr) (fun i _ => n - (intOf i).toNat)
  case atStart => exact ⟨0, by omega, rfl, Lib.hid (by omega), rfl⟩
  case round =>
    obtain ⟨k, hk, rfl, hlow, rfl⟩ := hrel
    by_cases hlt : k < n
    · have hkl : k < P.length := by rw [← HN.out]; exact hlt
      obtain ⟨g, rfl, hc⟩ := HP.out k hkl
      have hcap : n ≤ cap := by
        rcases H0.out.1.2 with ⟨hx, -⟩ | ⟨g', cap', cur, hv, hB, hh, hn, hc, hs, ht⟩
        · cases hx
        · simp only [Value.slice.injEq, true_and] at hv
          obtain ⟨-, -, rfl⟩ := hv
          rw [HN.out]; exact hn
      cases hq : lxL (pll P k) zs
      · have HK := Lib.hid (putS_at hlow.out (by omega) (fun _ => hq))
        have HB' := Lib.hid (fun W (hb : Below w.heap.size w W) => show Calls Tryz.prog 56 #[pvl P k, .slice Ax nx cx] W fun e w' => e = .returned (.bool false) ∧ W = w' by rw [← hq]; exact HB.out k hkl W hb)
        clear hq
        go_wp2_with fail
        refine (HB'.out _ (Below.refl _ _)).mono ?_
        rintro e w' ⟨rfl, rfl⟩
        by_cases hsm : pll P k = zs
        · have HS' := Lib.hid (fun W (hb : Below w.heap.size w W) => show Calls Tryz.prog 36 #[pvl P k, .slice Ax nx cx] W fun e w' => SaysB true W e w' by
            have := HS.out k hkl W hb
            rwa [show decide (pll P k = zs) = true from by simpa using hsm] at this)
          have HK' := Lib.hid (show putX lxL zs (lls P) = lls P by rw [HK.out, if_pos ⟨hkl, hsm⟩])
          clear hsm
          go_wp2_with fail
          refine (HS'.out _ (Below.refl _ _)).mono ?_
          rintro e w' ⟨rfl, q, rfl⟩
          go_wp2
          go_ret
          have hb := belN (Below.refl w.heap.size w) q
          refine ⟨_, P, rfl, ?_, HK'.out.symm, fun h => by omega, fun p hp => .inr hp, hb⟩
          have := H0.out.below hb
          rw [← HN.out] at this
          exact this
        · have HS' := Lib.hid (fun W (hb : Below w.heap.size w W) => show Calls Tryz.prog 36 #[pvl P k, .slice Ax nx cx] W fun e w' => SaysB false W e w' by
            have := HS.out k hkl W hb
            rwa [show decide (pll P k = zs) = false from by simpa using hsm] at this)
          have HK' := Lib.hid (show putX lxL zs (lls P) = (lls P).take k ++ zs :: (lls P).drop k by rw [HK.out, if_neg (fun h => hsm h.2)])
          clear hsm
          go_wp2_with fail
          refine (HS'.out _ (Below.refl _ _)).mono ?_
          rintro e w' ⟨rfl, q, rfl⟩
          have HXB := Lib.hid (belN (Below.refl w.heap.size w) q)
          have HRX0 := (H0.out.below HXB.out).news
          have HO1 := Lib.hid H0.out.2.ones
          generalize w.drewN q = X at HXB HRX0 ⊢
          have HRX := Lib.hid HRX0
          have l1 : k ≤ cap := by omega
          have l3 : ¬ cap = 0 := by omega
          have hck : ¬ cap = k := by omega
          have hSX : Below X.heap.size X X := Below.refl _ _
          clear hc HRX0
          go_wp2_with fail
          go_region_held3 (fun w' => Below X.heap.size X w') (repeat' (first | with_reducible assumption | with_reducible exact Below.refl _ _ | with_reducible refine sbD ?_ | with_reducible refine sbA ?_ _)) (first | (refine step_app_sl (by rfl) (.tmp 33) (.tmp 36) (by rfl) X (.slice (some ⟨X.heap.size, 0, none⟩) 0 0) 0 [] (by rfl) (twS_new _ _ (Nat.le_refl _)) ⟨g, 0, none⟩ k _ ((vls P).take k) (by rfl) (by rw [List.length_take, vls_len, ← HN.out]; omega) (preS_news HRX.out (by assumption) _) (ones_take HO1.out _) (by omega) (by assumption) ?_; intro v1 w1 hown1 hS1 hk1) | (refine step_app_sl (by rfl) (.tmp 33) (.tmp 36) (by rfl) X (.slice (some ⟨X.heap.size, 0, none⟩) 0 0) 0 [] (by rfl) (World.ownsRow.alloc (twS_new _ _ (Nat.le_refl _)) _) ⟨g, 0, none⟩ k _ ((vls P).take k) (by rfl) (by rw [List.length_take, vls_len, ← HN.out]; omega) (preS_news HRX.out (by assumption) _) (ones_take HO1.out _) (by omega) (by assumption) ?_; intro v1 w1 hown1 hS1 hk1; have c51 := hk1 ⟨X.heap.size + 1, 0, none⟩ (.slice Ax nx cx) (litS_new2 X (.cells #[] 36) (.slice Ax nx cx)) (by intro q hq; simp [Value.ownBlock] at hq; dsimp only; omega)) | (refine step_app_sl (by rfl) (.tmp 33) (.tmp 36) (by rfl) X (.slice (some ⟨X.heap.size + 1, 0, none⟩) 0 0) 0 [] (by rfl) (twS_new' _ _ _ (Nat.le_refl _)) ⟨g, 0, none⟩ k _ ((vls P).take k) (by rfl) (by rw [List.length_take, vls_len, ← HN.out]; omega) (preS_news HRX.out (by assumption) _) (ones_take HO1.out _) (by omega) (by assumption) ?_; intro v1 w1 hown1 hS1 hk1; have c51 := hk1 ⟨X.heap.size, 0, none⟩ (.slice Ax nx cx) (litS_new3 X (.cells #[] 36) (.slice Ax nx cx)) (by intro q hq; simp [Value.ownBlock] at hq; dsimp only; omega)) | (refine step_app_sl (by rfl) (.tmp 40) (.tmp 43) (by rfl) X v2 (0 + k + 1) ([] ++ ((vls P).take k) ++ [(.slice Ax nx cx)]) (by rfl) hown2 ⟨g, k, none⟩ (n - k) _ ((vls P).drop k) (by rfl) (by rw [List.length_drop, vls_len, ← HN.out]) (postS_news HRX.out (by assumption) _) (ones_drop HO1.out _) (by omega) (by assumption) ?_; intro v3 w3 hown3 hS3 hk3) | (refine step_app_sl (by rfl) (.tmp 37) (.tmp 39) (by rfl) X v1 (0 + k) ([] ++ ((vls P).take k)) (by rfl) (by first | exact hown1 | exact World.ownsRow.alloc hown1 _) _ 1 _ [(.slice Ax nx cx)] (by rfl) rfl (by first | exact oneS_news c51 | exact oneS_news (litS_new _ _)) (fun u hu => by simp at hu; subst hu; rfl) (by omega) (by assumption) ?_; intro v2 w2 hown2 hS2 hk2))
          all_goals
            go_wp2
            go_ret
            exact put_end H0.out.2 HX.out HD.out (w1 := X) (k := k) (m := n - k) (Nat.le_trans hbB.out HXB.out.size) HXB.out (by have := HN.out; omega) (by have := HN.out; omega) HK'.out hown3 hS3
      · have HL := Lib.hid (show ∀ j, j < k + 1 → j < P.length ∧ lxL (pll P j) zs = true from fun j hj => by
          rcases Nat.lt_or_ge j k with h | h
          · exact hlow.out j h
          · obtain rfl : j = k := by omega
            exact ⟨hkl, hq⟩)
        have HB' := Lib.hid (fun W (hb : Below w.heap.size w W) => show Calls Tryz.prog 56 #[pvl P k, .slice Ax nx cx] W fun e w' => e = .returned (.bool true) ∧ W = w' by rw [← hq]; exact HB.out k hkl W hb)
        clear hq
        go_wp2_with fail
        refine (HB'.out _ (Below.refl _ _)).mono ?_
        rintro e w' ⟨rfl, rfl⟩
        go_wp2
        go_roundw
        case rel => exact ⟨k + 1, by omega, by go_num, HL, by first | rfl | trivial⟩
        case measure => simp [intOf]; omega
    · obtain rfl : k = n := by omega
      have HK := Lib.hid (putS_at hlow.out (by rw [← HN.out]; omega) (fun h => by rw [← HN.out] at h; omega))
      have HK' := Lib.hid (show putX lxL zs (lls P) = (lls P).take k ++ zs :: (lls P).drop k by rw [HK.out, if_neg (by rw [← HN.out]; omega)])
      have HXB := Lib.hid (Below.refl w.heap.size w)
      have HO1 := Lib.hid H0.out.2.ones
      obtain ⟨X, hX⟩ : ∃ X, X = w := ⟨_, rfl⟩
      have hSX : Below X.heap.size X X := Below.refl _ _
      rcases H0.out.1.2 with ⟨hx, h0⟩ | ⟨g, cap', cur, hx, hB, hh, hnc, hc, hs, ht⟩
      · simp only [Value.slice.injEq] at hx
        obtain ⟨rfl, -, rfl⟩ := hx
        rw [← HN.out] at h0
        subst h0
        subst hX
        go_wp2_with fail
        go_region_held3 (fun w' => Below X.heap.size X w') (repeat' (first | with_reducible assumption | with_reducible exact Below.refl _ _ | with_reducible refine sbD ?_ | with_reducible refine sbA ?_ _)) (first | (refine step_app_noneS (by rfl) (.tmp 33) (.tmp 36) (by rfl) X.heap.size (.slice (some ⟨X.heap.size, 0, none⟩) 0 0) 0 [] (by rfl) (by first | exact twS_new _ _ (Nat.le_refl _) | exact World.ownsRow.alloc (twS_new _ _ (Nat.le_refl _)) _) (by rfl) ?_) | (refine step_app_noneS (by rfl) (.tmp 33) (.tmp 36) (by rfl) X.heap.size (.slice (some ⟨X.heap.size + 1, 0, none⟩) 0 0) 0 [] (by rfl) (twS_new' _ _ _ (Nat.le_refl _)) (by rfl) ?_) | (refine step_app_sl (by rfl) (.tmp 37) (.tmp 39) (by rfl) X (.slice (some ⟨X.heap.size, 0, none⟩) 0 0) 0 [] (by rfl) (World.ownsRow.alloc (twS_new _ _ (Nat.le_refl _)) _) ⟨X.heap.size + 1, 0, none⟩ 1 1 [(.slice Ax nx cx)] (by rfl) rfl (oneS_news (litS_new2 X (.cells #[] 36) (.slice Ax nx cx))) (fun u hu => by simp at hu; subst hu; rfl) (by omega) (by assumption) ?_; intro v2 w2 hown2 hS2 hk2) | (refine step_app_sl (by rfl) (.tmp 37) (.tmp 39) (by rfl) X (.slice (some ⟨X.heap.size + 1, 0, none⟩) 0 0) 0 [] (by rfl) (twS_new' _ _ _ (Nat.le_refl _)) ⟨X.heap.size, 0, none⟩ 1 1 [(.slice Ax nx cx)] (by rfl) rfl (oneS_news (litS_new3 X (.cells #[] 36) (.slice Ax nx cx))) (fun u hu => by simp at hu; subst hu; rfl) (by omega) (by assumption) ?_; intro v2 w2 hown2 hS2 hk2) | (refine step_app_noneS (by rfl) (.tmp 40) (.tmp 43) (by rfl) X.heap.size v2 (0 + 1) _ (by rfl) hown2 (by rfl) ?_))
        all_goals
          go_wp2
          go_ret
          exact put_end H0.out.2 HX.out HD.out (w1 := X) (k := 0) (m := 0) hbB.out HXB.out (by omega) (by rw [← HN.out]) HK'.out (by
            have e : P = [] := List.eq_nil_of_length_eq_zero HN.out.symm
            rw [e]; exact hown2) hS2
      · simp only [Value.slice.injEq, true_and] at hx
        obtain ⟨rfl, -, rfl⟩ := hx
        have HRX := Lib.hid H0.out.news
        rw [← HN.out] at hnc
        clear hh hc hs ht hB
        by_cases hc : cap = k
        · subst hc
          by_cases l3 : cap = 0
          · exfalso; have := HNIL.out (by rw [← HN.out]; exact l3); simp at this
          · have l1 : cap ≤ cap := by omega
            subst hX
            go_wp2_with fail
            go_region_held3 (fun w' => Below X.heap.size X w') (repeat' (first | with_reducible assumption | with_reducible exact Below.refl _ _ | with_reducible refine sbD ?_ | with_reducible refine sbA ?_ _)) (first | (refine step_app_sl (by rfl) (.tmp 33) (.tmp 36) (by rfl) X (.slice (some ⟨X.heap.size, 0, none⟩) 0 0) 0 [] (by rfl) (twS_new _ _ (Nat.le_refl _)) ⟨g, 0, none⟩ cap _ ((vls P).take cap) (by rfl) (by rw [List.length_take, vls_len, ← HN.out]; omega) (preS_news HRX.out (by assumption) _) (ones_take HO1.out _) (by omega) (by assumption) ?_; intro v1 w1 hown1 hS1 hk1) | (refine step_app_sl (by rfl) (.tmp 33) (.tmp 36) (by rfl) X (.slice (some ⟨X.heap.size, 0, none⟩) 0 0) 0 [] (by rfl) (World.ownsRow.alloc (twS_new _ _ (Nat.le_refl _)) _) ⟨g, 0, none⟩ cap _ ((vls P).take cap) (by rfl) (by rw [List.length_take, vls_len, ← HN.out]; omega) (preS_news HRX.out (by assumption) _) (ones_take HO1.out _) (by omega) (by assumption) ?_; intro v1 w1 hown1 hS1 hk1; have c51 := hk1 ⟨X.heap.size + 1, 0, none⟩ (.slice Ax nx cx) (litS_new2 X (.cells #[] 36) (.slice Ax nx cx)) (by intro q hq; simp [Value.ownBlock] at hq; dsimp only; omega)) | (refine step_app_sl (by rfl) (.tmp 33) (.tmp 36) (by rfl) X (.slice (some ⟨X.heap.size + 1, 0, none⟩) 0 0) 0 [] (by rfl) (twS_new' _ _ _ (Nat.le_refl _)) ⟨g, 0, none⟩ cap _ ((vls P).take cap) (by rfl) (by rw [List.length_take, vls_len, ← HN.out]; omega) (preS_news HRX.out (by assumption) _) (ones_take HO1.out _) (by omega) (by assumption) ?_; intro v1 w1 hown1 hS1 hk1; have c51 := hk1 ⟨X.heap.size, 0, none⟩ (.slice Ax nx cx) (litS_new3 X (.cells #[] 36) (.slice Ax nx cx)) (by intro q hq; simp [Value.ownBlock] at hq; dsimp only; omega)) | (refine step_app_sl (by rfl) (.tmp 40) (.tmp 43) (by rfl) X v2 (0 + cap + 1) ([] ++ ((vls P).take cap) ++ [(.slice Ax nx cx)]) (by rfl) hown2 ⟨g, 0, none⟩ (0) _ ((vls P).drop cap) (by rfl) (by rw [List.length_drop, vls_len, ← HN.out]; omega) (nilS_news (List.drop_eq_nil_of_le (by rw [vls_len, ← HN.out]; omega))) (ones_drop HO1.out _) (by omega) (by assumption) ?_; intro v3 w3 hown3 hS3 hk3) | (refine step_app_sl (by rfl) (.tmp 37) (.tmp 39) (by rfl) X v1 (0 + cap) ([] ++ ((vls P).take cap)) (by rfl) (by first | exact hown1 | exact World.ownsRow.alloc hown1 _) _ 1 _ [(.slice Ax nx cx)] (by rfl) rfl (by first | exact oneS_news c51 | exact oneS_news (litS_new _ _)) (fun u hu => by simp at hu; subst hu; rfl) (by omega) (by assumption) ?_; intro v2 w2 hown2 hS2 hk2))
            all_goals
              go_wp2
              go_ret
              exact put_end H0.out.2 HX.out HD.out (w1 := X) (k := cap) (m := 0) (Nat.le_trans hbB.out HXB.out.size) HXB.out (by have := HN.out; omega) (by have := HN.out; omega) HK'.out hown3 hS3
        · have hck : ¬ cap = k := hc
          have l1 : k ≤ cap := by omega
          have l3 : ¬ cap = 0 := by omega
          subst hX
          go_wp2_with fail
          go_region_held3 (fun w' => Below X.heap.size X w') (repeat' (first | with_reducible assumption | with_reducible exact Below.refl _ _ | with_reducible refine sbD ?_ | with_reducible refine sbA ?_ _)) (first | (refine step_app_sl (by rfl) (.tmp 33) (.tmp 36) (by rfl) X (.slice (some ⟨X.heap.size, 0, none⟩) 0 0) 0 [] (by rfl) (twS_new _ _ (Nat.le_refl _)) ⟨g, 0, none⟩ k _ ((vls P).take k) (by rfl) (by rw [List.length_take, vls_len, ← HN.out]; omega) (preS_news HRX.out (by assumption) _) (ones_take HO1.out _) (by omega) (by assumption) ?_; intro v1 w1 hown1 hS1 hk1) | (refine step_app_sl (by rfl) (.tmp 33) (.tmp 36) (by rfl) X (.slice (some ⟨X.heap.size, 0, none⟩) 0 0) 0 [] (by rfl) (World.ownsRow.alloc (twS_new _ _ (Nat.le_refl _)) _) ⟨g, 0, none⟩ k _ ((vls P).take k) (by rfl) (by rw [List.length_take, vls_len, ← HN.out]; omega) (preS_news HRX.out (by assumption) _) (ones_take HO1.out _) (by omega) (by assumption) ?_; intro v1 w1 hown1 hS1 hk1; have c51 := hk1 ⟨X.heap.size + 1, 0, none⟩ (.slice Ax nx cx) (litS_new2 X (.cells #[] 36) (.slice Ax nx cx)) (by intro q hq; simp [Value.ownBlock] at hq; dsimp only; omega)) | (refine step_app_sl (by rfl) (.tmp 33) (.tmp 36) (by rfl) X (.slice (some ⟨X.heap.size + 1, 0, none⟩) 0 0) 0 [] (by rfl) (twS_new' _ _ _ (Nat.le_refl _)) ⟨g, 0, none⟩ k _ ((vls P).take k) (by rfl) (by rw [List.length_take, vls_len, ← HN.out]; omega) (preS_news HRX.out (by assumption) _) (ones_take HO1.out _) (by omega) (by assumption) ?_; intro v1 w1 hown1 hS1 hk1; have c51 := hk1 ⟨X.heap.size, 0, none⟩ (.slice Ax nx cx) (litS_new3 X (.cells #[] 36) (.slice Ax nx cx)) (by intro q hq; simp [Value.ownBlock] at hq; dsimp only; omega)) | (refine step_app_sl (by rfl) (.tmp 40) (.tmp 43) (by rfl) X v2 (0 + k + 1) ([] ++ ((vls P).take k) ++ [(.slice Ax nx cx)]) (by rfl) hown2 ⟨g, k, none⟩ (0) _ ((vls P).drop k) (by rfl) (by rw [List.length_drop, vls_len, ← HN.out]; omega) (nilS_news (List.drop_eq_nil_of_le (by rw [vls_len, ← HN.out]; omega))) (ones_drop HO1.out _) (by omega) (by assumption) ?_; intro v3 w3 hown3 hS3 hk3) | (refine step_app_sl (by rfl) (.tmp 37) (.tmp 39) (by rfl) X v1 (0 + k) ([] ++ ((vls P).take k)) (by rfl) (by first | exact hown1 | exact World.ownsRow.alloc hown1 _) _ 1 _ [(.slice Ax nx cx)] (by rfl) rfl (by first | exact oneS_news c51 | exact oneS_news (litS_new _ _)) (fun u hu => by simp at hu; subst hu; rfl) (by omega) (by assumption) ?_; intro v2 w2 hown2 hS2 hk2))
          all_goals
            go_wp2
            go_ret
            exact put_end H0.out.2 HX.out HD.out (w1 := X) (k := k) (m := 0) (Nat.le_trans hbB.out HXB.out.size) HXB.out (by have := HN.out; omega) (by have := HN.out; omega) HK'.out hown3 hS3
end Go.Proofs.YtcfplfjllnojoaaGreat
/-
  The model of cells, fourth part: all cells.
  Condition: the slice reads as the terms that are named; they are valid.
-/
namespace Go.Proofs.YtcfplfjllnojoaaGreat
set_option linter.unusedSimpArgs false
set_option linter.unusedVariables false
open Go.ChangeShapes Go.WideShapes Go.ChangeAt Go.RowKit
open Go.Sort (grow)

theorem CeI.mono {l : List Tm} {D D' : Nat → Nat → Nat → Prop} {out : List (List Int)} (h : CeI l D out) (hD : ∀ a b c, a < b → b < c → c < l.length → (D' a b c ↔ D a b c)) : CeI l D' out :=
  ⟨h.1, fun x => (h.2 x).trans ⟨fun ⟨a, b, c, h1, h2⟩ => ⟨a, b, c, (hD a b c h2.1 h2.2.1 h2.2.2.1).2 h1, h2⟩, fun ⟨a, b, c, h1, h2⟩ => ⟨a, b, c, (hD a b c h2.1 h2.2.1 h2.2.2.1).1 h1, h2⟩⟩⟩
theorem CeI.skip {l : List Tm} {D D' : Nat → Nat → Nat → Prop} {out : List (List Int)} {i j k : Nat} (h : CeI l D out) (hD : ∀ a b c, a < b → b < c → c < l.length → (D' a b c ↔ D a b c ∨ (a = i ∧ b = j ∧ c = k)))
    (hno : tuT (td l i) (td l j) (td l k) = 0 ∨ ¬ okP (plO l i j k) l l.length) : CeI l D' out :=
  ⟨h.1, fun x => (h.2 x).trans ⟨fun ⟨a, b, c, h1, h2⟩ => ⟨a, b, c, (hD a b c h2.1 h2.2.1 h2.2.2.1).2 (.inl h1), h2⟩, fun ⟨a, b, c, h1, h2⟩ => by
    rcases (hD a b c h2.1 h2.2.1 h2.2.2.1).1 h1 with h3 | ⟨rfl, rfl, rfl⟩
    · exact ⟨a, b, c, h3, h2⟩
    · rcases hno with h4 | h4
      · exact absurd h4 h2.2.2.2.1
      · exact absurd h2.2.2.2.2.1 h4⟩⟩
theorem CeI.put {l : List Tm} {D D' : Nat → Nat → Nat → Prop} {out : List (List Int)} {i j k : Nat} (h : CeI l D out) (hD : ∀ a b c, a < b → b < c → c < l.length → (D' a b c ↔ D a b c ∨ (a = i ∧ b = j ∧ c = k)))
    (hij : i < j) (hjk : j < k) (hk : k < l.length) (ht : tuT (td l i) (td l j) (td l k) ≠ 0) (ho : okP (plO l i j k) l l.length) : CeI l D' (putX lxL (zeL (plO l i j k) l l.length) out) :=
  ⟨putX_inc totLx _ h.1, fun x => by
    rw [putX_mem totLx, h.2 x]
    constructor
    · rintro (rfl | ⟨a, b, c, h1, h2⟩)
      · exact ⟨i, j, k, (hD i j k hij hjk hk).2 (.inr ⟨rfl, rfl, rfl⟩), hij, hjk, hk, ht, ho, rfl⟩
      · exact ⟨a, b, c, (hD a b c h2.1 h2.2.1 h2.2.2.1).2 (.inl h1), h2⟩
    · rintro ⟨a, b, c, h1, h2⟩
      rcases (hD a b c h2.1 h2.2.1 h2.2.2.1).1 h1 with h3 | ⟨rfl, rfl, rfl⟩
      · exact .inr ⟨a, b, c, h3, h2⟩
      · exact .inl h2.2.2.2.2.2⟩
theorem CeI.nil (l : List Tm) (D : Nat → Nat → Nat → Prop) (h : ∀ a b c, a < b → b < c → c < l.length → ¬ D a b c) : CeI l D [] :=
  ⟨List.Pairwise.nil, fun x => ⟨fun hx => by simp at hx, fun ⟨a, b, c, h1, h2⟩ => absurd h1 (h a b c h2.1 h2.2.1 h2.2.2.1)⟩⟩
/-- The triples that have been done: before (i), (i, j), (i, j, k). -/
def D1 (i : Nat) (a _b _c : Nat) : Prop := a < i
def D2 (i j : Nat) (a b _c : Nat) : Prop := a < i ∨ (a = i ∧ b < j)
def D3 (i j k : Nat) (a b c : Nat) : Prop := a < i ∨ (a = i ∧ (b < j ∨ (b = j ∧ c < k)))
theorem ceX_cases (p : Tm × Tm) (l : List Tm) : (okP p l l.length ∧ ceX p l = zeL p l l.length) ∨ (¬ okP p l l.length ∧ ceX p l = []) := by
  unfold ceX
  by_cases h : okP p l l.length
  · exact .inl ⟨h, if_pos h⟩
  · exact .inr ⟨h, if_neg h⟩
/-- What is known between two rounds: the lists so far. -/
def OutC (l : List Tm) (B : Nat) (D : Nat → Nat → Nat → Prop) (o : Value) (w : World) : Prop := ∃ P, LS w B o P ∧ CeI l D (lls P) ∧ (P.length = 0 → o = .slice none 0 0)
theorem OutC.mono {l : List Tm} {B : Nat} {D D' : Nat → Nat → Nat → Prop} {o : Value} {w : World} (h : OutC l B D o w) (hD : ∀ a b c, a < b → b < c → c < l.length → (D' a b c ↔ D a b c)) : OutC l B D' o w := by
  obtain ⟨P, h1, h2, h3⟩ := h
  exact ⟨P, h1, h2.mono hD, h3⟩
theorem OutC.below {l : List Tm} {B : Nat} {D : Nat → Nat → Nat → Prop} {o : Value} {w w' : World} (h : OutC l B D o w) (hb : Below w.heap.size w w') : OutC l B D o w' := by
  obtain ⟨P, h1, h2, h3⟩ := h
  exact ⟨P, h1.below hb, h2, h3⟩
theorem OutC.skip {l : List Tm} {B : Nat} {D D' : Nat → Nat → Nat → Prop} {o : Value} {w : World} {i j k : Nat} (h : OutC l B D o w) (hD : ∀ a b c, a < b → b < c → c < l.length → (D' a b c ↔ D a b c ∨ (a = i ∧ b = j ∧ c = k)))
    (hno : tuT (td l i) (td l j) (td l k) = 0 ∨ ¬ okP (plO l i j k) l l.length) : OutC l B D' o w := by
  obtain ⟨P, h1, h2, h3⟩ := h
  exact ⟨P, h1, h2.skip hD hno, h3⟩
set_option maxHeartbeats 4000000 in
set_option maxRecDepth 100000 in
theorem ceOf_any (w : World) (B : Nat) (v : Value) (l : List Tm) (h : TmS w B v l) (hl : plB l = true) : Calls Tryz.prog 18 #[v] w fun e w' => GivesL (ceL l) w e w' := by
  have H0 := Lib.hid h
  obtain ⟨A, cap, rfl, hm, hp⟩ := TmS.parts h
  have HP := Lib.hid hp
  have hle := (plB_le hl).2
  have HL := Lib.hid hl
  obtain ⟨n, hn⟩ : ∃ n, n = l.length := ⟨_, rfl⟩
  have HN := Lib.hid hn
  rw [← hn] at hm hle ⊢
  have HC := Lib.hid (fun t W => cePoint_any t W)
  have HT := Lib.hid (fun a b p W (h1 : Sm 1000 a) (h2 : Sm 1000 b) (h3 : Sm 1000 p) => pyTurn_any a b p W h1 h2 h3)
  have HSM := Lib.hid (fun m (hm : m < l.length) => ptO_sm (plB_at hl hm))
  have HCL := Lib.hid (ceL_len (l := l) (by omega))
  have HIN := Lib.hid hle
  clear hp h hn hl
  go_enter Tryz.func18, Tryz.ntmps18
  go_wp2
  go_loopw [3, 10] (fun o q wr => ∃ i : Nat, i ≤ n ∧ q = .int .i64 i ∧ Hid (OutC l w.heap.size (D1 i) o wr) ∧ Below w.heap.size w wr) (fun _ q _ => n - (intOf q).toNat)
  case atStart => exact ⟨0, by omega, rfl, Lib.hid ⟨[], LS.nil_ _ _, CeI.nil l _ (fun a b c _ _ _ h => by unfold D1 at h; omega), fun _ => rfl⟩, Below.refl _ _⟩
  case round =>
    obtain ⟨i, hi, rfl, ho, hb⟩ := hrel
    by_cases hlt : i < n
    · have q1 : IntKind.i64.wrap ((i : Int) + 1) = ((i + 1 : Nat) : Int) := by rw [IntWalk.i64_in _ (by omega)]; omega
      have ho1 := Lib.hid (ho.out.mono (D' := D2 i (i + 1)) fun a b c h1 h2 h3 => by unfold D1 D2; omega)
      clear ho
      go_wp2
      go_loopw [3, 5] (fun o q wr => ∃ j : Nat, i < j ∧ j ≤ n ∧ q = .int .i64 j ∧ Hid (OutC l w.heap.size (D2 i j) o wr) ∧ Below w.heap.size w wr) (fun _ q _ => n - (intOf q).toNat)
      case atStart => exact ⟨i + 1, by omega, by omega, rfl, ho1, hb⟩
      case round =>
        clear ho1 hb
        obtain ⟨j, hij, hj, rfl, ho, hb⟩ := hrel
        by_cases hltj : j < n
        · have q2 : IntKind.i64.wrap ((j : Int) + 1) = ((j + 1 : Nat) : Int) := by rw [IntWalk.i64_in _ (by omega)]; omega
          have ho2 := Lib.hid (ho.out.mono (D' := D3 i j (j + 1)) fun a b c h1 h2 h3 => by unfold D2 D3; omega)
          clear ho
          go_wp2
          go_loopw [3, 6] (fun o q wr => ∃ k : Nat, j < k ∧ k ≤ n ∧ q = .int .i64 k ∧ Hid (OutC l w.heap.size (D3 i j k) o wr) ∧ Below w.heap.size w wr) (fun _ q _ => n - (intOf q).toNat)
          case atStart => exact ⟨j + 1, by omega, by omega, rfl, ho2, hb⟩
          case round =>
            clear ho2 hb
            obtain ⟨k, hjk, hk, rfl, ho, hb⟩ := hrel
            by_cases hltk : k < n
            · have hil : i < l.length := by rw [← HN.out]; exact hlt
              have hjl : j < l.length := by rw [← HN.out]; exact hltj
              have hkl : k < l.length := by rw [← HN.out]; exact hltk
              obtain ⟨g, rfl, ca⟩ := HP.out i hil
              obtain ⟨g1, hg1, cb⟩ := HP.out j hjl
              cases hg1
              obtain ⟨g1, hg1, cc⟩ := HP.out k hkl
              cases hg1
              obtain ⟨a0, a1, a2⟩ := X3.grown (X3.below ca hb)
              obtain ⟨b0, b1, b2⟩ := X3.grown (X3.below cb hb)
              obtain ⟨c0, c1, c2⟩ := X3.grown (X3.below cc hb)
              have m1 := HSM.out i hil
              have m2 := HSM.out j hjl
              have m3 := HSM.out k hkl
              have hi1 : (i : Int) < (n : Int) := by omega
              have hj1 : (j : Int) < (n : Int) := by omega
              have hk1 : (k : Int) < (n : Int) := by omega
              have hi2 : (0 : Int) ≤ (i : Int) := by omega
              have hj2 : (0 : Int) ≤ (j : Int) := by omega
              have hk2 : (0 : Int) ≤ (k : Int) := by omega
              have HD := Lib.hid (fun a b c (h1 : a < b) (h2 : b < c) (h3 : c < l.length) => show D3 i j (k + 1) a b c ↔ D3 i j k a b c ∨ (a = i ∧ b = j ∧ c = k) by unfold D3; omega)
              clear ca cb cc
              go_wp2_with fail
              refine wp_region_quiet_grown (by kernel_rfl) (by kernel_rfl) ?_
              repeat (go_big_quiet_step (first | (go_at_call 37; refine Calls.grown_of (HC.out _ _)) | (go_at_call 40; refine Calls.grown_of (HT.out _ _ _ _ (by assumption) (by assumption) (by assumption)))))
              refine wpQuiet_nil ?_
              intro _ hw'
              obtain ⟨⟨nq, osq⟩, hw''⟩ := hw'
              subst hw''
              have HG := Lib.hid (show Below wr.heap.size wr (grow (wr.drewN nq) osq) from grB _ _)
              generalize grow (wr.drewN nq) osq = W1 at HG ⊢
              have hbW := bel2 hb HG.out
              have ho1 := Lib.hid (ho.out.below HG.out)
              have q3 : IntKind.i64.wrap ((k : Int) + 1) = ((k + 1 : Nat) : Int) := by rw [IntWalk.i64_in _ (by omega)]; omega
              clear a0 a1 a2 b0 b1 b2 c0 c1 c2 m1 m2 m3 ho hb
              by_cases ht : trn (ptO (td l i)) (ptO (td l j)) (ptO (td l k)) = 0
              · have HO := Lib.hid (ho1.out.skip HD.out (.inl ht))
                go_wp2
                go_roundw
                case rel => exact ⟨k + 1, by omega, by omega, by go_num, HO, hbW⟩
                case measure => simp [intOf]; omega
              · have H1 : TmS W1 B (.slice (some ⟨g, 0, none⟩) n cap) l := by rw [HN.out]; exact FS.below H0.out hbW
                have HCE := Lib.hid (ceCell_any W1 B _ l H1 HL.out i j k hil hjl hkl ht)
                clear H1
                go_wp2_with fail
                refine HCE.out.mono ?_
                rintro e w2 ⟨x, rfl, hx, bx⟩
                have hb2 := bel2 hbW bx
                have HX := Lib.hid hx
                obtain ⟨Ax, cx, hxv, -, -⟩ := hx.parts
                obtain ⟨m, hm⟩ : ∃ m, m = (ceX (plO l i j k) l).length := ⟨_, rfl⟩
                rw [← hm] at hxv
                subst hxv
                clear hx HCE
                rcases ceX_cases (plO l i j k) l with ⟨hok, hce⟩ | ⟨hok, hce⟩
                · have hpos : (0 : Int) < (m : Int) := by have := zeL_pos (j := j) (k := k) hil; rw [hm, hce]; omega
                  obtain ⟨P, h1, h2, h3⟩ := ho1.out
                  have hPl : P.length ≤ 100000 := by have := h2.le; rw [lls_len] at this; have := HCL.out; omega
                  have HPUT := Lib.hid (cePut_any w2 w.heap.size u3 (.slice Ax m cx) P (zeL (plO l i j k) l l.length) (h1.below bx) hb2.size h3 (by rw [← hce]; exact HX.out.base hbW.size) (fun p hp g' hg' e => by
                    have := (h1.2.1 p hp).lt g' hg'
                    have := HX.out.lt g' e
                    omega) hPl)
                  have HCI := Lib.hid (h2.put HD.out hij hjk hkl ht hok)
                  clear h1 h2 h3 HX hm hce hok
                  go_wp2_with fail
                  refine HPUT.out.mono ?_
                  rintro e w3 ⟨r, P', rfl, hLS, hput, hnil, -, b3⟩
                  have HO := Lib.hid (show OutC l w.heap.size (D3 i j (k + 1)) r w3 from ⟨P', hLS, by rw [hput]; exact HCI.out, hnil⟩)
                  have hb3 := bel2 hb2 b3
                  clear hLS hput hnil b3 HPUT HCI
                  go_wp2
                  go_roundw
                  case rel => exact ⟨k + 1, by omega, by omega, by go_num, HO, hb3⟩
                  case measure => simp [intOf]; omega
                · have hz : m = 0 := by rw [hm, hce]; rfl
                  subst hz
                  have HO := Lib.hid ((ho1.out.below bx).skip HD.out (.inr hok))
                  clear hm hce hok HX
                  go_wp2
                  go_roundw
                  case rel => exact ⟨k + 1, by omega, by omega, by go_num, HO, hb2⟩
                  case measure => simp [intOf]; omega
            · obtain rfl : k = n := by omega
              have HO := Lib.hid (ho.out.mono (D' := D2 i (j + 1)) fun a b c h1 h2 h3 => by unfold D2 D3; rw [← HN.out] at h3; omega)
              go_wp2
              go_roundw
              case rel => exact ⟨j + 1, by omega, by omega, by go_num, HO, hb⟩
              case measure => simp [intOf]; omega
        · obtain rfl : j = n := by omega
          have HO := Lib.hid (ho.out.mono (D' := D1 (i + 1)) fun a b c h1 h2 h3 => by unfold D2 D1; rw [← HN.out] at h3; omega)
          go_wp2
          go_roundw
          case rel => exact ⟨i + 1, by omega, by go_num, HO, hb⟩
          case measure => simp [intOf]; omega
    · obtain rfl : i = n := by omega
      go_wp2
      go_ret
      obtain ⟨P, h1, h2, -⟩ := ho.out
      exact ⟨_, P, rfl, h1, h2.end_ (fun a b c h1 h2 h3 => by unfold D1; rw [← HN.out] at h3; omega), hb⟩
end Go.Proofs.YtcfplfjllnojoaaGreat
