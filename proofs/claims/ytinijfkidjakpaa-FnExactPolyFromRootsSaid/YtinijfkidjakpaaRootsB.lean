/-
  Lists of roots in the laws: compared, marked, read again; how often a fraction is a root.
  Conditions: the slice reads as the list that is named.
-/
import Derived.Test.YtinijfkidjakpaaRoots
namespace Go.Proofs.Ytinijfkidjakpaa
set_option linter.unusedSimpArgs false
set_option linter.unusedVariables false
open Go.ChangeShapes Go.WideShapes Go.ChangeAt Go.RowKit

theorem eqRoot_same (r : Rt) (w : World) : Calls Try.prog 45 #[rtV r, rtV r] w fun e w' => e = .returned (.bool true) ∧ Below w.heap.size w w' := by
  obtain ⟨a, b, c⟩ := r
  go_enter Try.func45, Try.ntmps45
  go_wp2_with fail
  refine (eqFrac_same _ _ _).mono ?_
  rintro e w1 ⟨rfl, b1⟩
  have k1 := cellAt b1
  go_wp2_with fail
  go_ret
  exact ⟨rfl, bel2 (by go_grown) b1⟩
set_option maxHeartbeats 1000000 in
set_option maxRecDepth 100000 in
theorem eqRootS_same (w : World) (B B' : Nat) (v v' : Value) (rs : List Rt) (h : RS w B v rs) (h' : RS w B' v' rs) : Calls Try.prog 20 #[v, v'] w fun e w' => e = .returned (.bool true) ∧ Below w.heap.size w w' := by
  obtain ⟨A, cap, rfl, hm, hp⟩ := RS.parts h
  obtain ⟨A', cap', rfl, -, hp'⟩ := RS.parts h'
  have HP := Lib.hid hp
  have HP' := Lib.hid hp'
  obtain ⟨n, hn⟩ : ∃ n, n = rs.length := ⟨_, rfl⟩
  have HN := Lib.hid hn
  rw [← hn] at hm ⊢
  unfold maxLen at hm
  clear hp hp' h h' hn
  go_enter Try.func20, Try.ntmps20
  go_wp2
  go_loopw [5] (fun i wr => ∃ j : Nat, j ≤ n ∧ i = .int .i64 j ∧ Below w.heap.size w wr) (fun i _ => n - (intOf i).toNat)
  case atStart => exact ⟨0, by omega, rfl, Below.refl _ _⟩
  case round =>
    obtain ⟨j, hj, rfl, hb⟩ := hrel
    by_cases hlt : j < n
    · obtain ⟨g, rfl, a0, a1, a2⟩ := HP.out j (by rw [← HN.out]; exact hlt)
      obtain ⟨g', rfl, b0, b1, b2⟩ := HP'.out j (by rw [← HN.out]; exact hlt)
      have c0 := (hb.cell (cell_lt a0)).trans a0
      have c1 := (hb.cell (cell_lt a1)).trans a1
      have c2 := (hb.cell (cell_lt a2)).trans a2
      have d0 := (hb.cell (cell_lt b0)).trans b0
      have d1 := (hb.cell (cell_lt b1)).trans b1
      have d2 := (hb.cell (cell_lt b2)).trans b2
      clear a0 a1 a2 b0 b1 b2
      go_wp2_with fail
      go_still_tail 8, (by kernel_rfl)
      go_wp2_with fail
      refine (eqRoot_same (rd rs j) _).mono ?_
      rintro e w1 ⟨rfl, b1⟩
      go_wp2
      go_roundw
      case rel => exact ⟨j + 1, by omega, by go_num, bel2 hb.drew b1⟩
      case measure => simp [intOf]; omega
    · go_wp2
      go_ret
      exact ⟨rfl, hb⟩
theorem marked_set3 (k : Int) (zs : List Int) (j : Nat) (hj : j * 3 + 2 < zs.length) : (((marked k zs (j * 3)).set (j * 3) (k + ((j * 3 : Nat) : Int))).set (j * 3 + 1) (k + ((j * 3 + 1 : Nat) : Int))).set (j * 3 + 2) (k + ((j * 3 + 2 : Nat) : Int)) = marked k zs ((j + 1) * 3) := by
  rw [marked_set k zs (j * 3) (by omega), marked_set k zs (j * 3 + 1) (by omega), marked_set k zs (j * 3 + 2) hj]
  congr 1
  omega
set_option maxHeartbeats 1000000 in
set_option maxRecDepth 100000 in
theorem markRootS_any (w : World) (B : Nat) (v : Value) (n : Nat) (zs : List Int) (k : Int) (h : FS 52 3 w B v n zs) (hk : 0 ≤ k ∧ k ≤ 1000000000) (hz : n ≤ 1048576) : Calls Try.prog 21 #[v, .int .i64 k] w fun e w' => MarksF 52 3 B v k n w e w' := by
  obtain ⟨hk0, hk1⟩ := hk
  have hlen := h.len
  rcases h.2 with ⟨rfl, h0⟩ | ⟨g, cap, cur, rfl, hBg, -, -⟩
  · subst h0
    have hnil : zs = [] := List.eq_nil_of_length_eq_zero (by omega)
    subst hnil
    go_enter Try.func21, Try.ntmps21
    go_wp2
    go_rounds 1
    go_ret
    exact ⟨ret_i64 (by simp), h, World.grownBy.refl _ _, rfl⟩
  · have H := Lib.hid h
    have HL := Lib.hid hlen
    clear h hlen
    go_enter Try.func21, Try.ntmps21
    go_wp2
    go_loopw [1, 5] (fun x i wr => ∃ j : Nat, j ≤ n ∧ i = .int .i64 j ∧ x = .int .i64 (k + ((j * 3 : Nat) : Int)) ∧ wr.ownsRow B 52 3 (.slice (some ⟨g, 0, none⟩) n cap) n (ints (marked k zs (j * 3))) ∧ w.grownBy wr (some g) ∧ wr.heap.size = w.heap.size) (fun _ i _ => n - (intOf i).toNat)
    case atStart => exact ⟨0, by omega, rfl, by simp, by have := H.out; unfold FS at this; simpa [marked] using this, World.grownBy.refl _ _, rfl⟩
    case round =>
      obtain ⟨j, hj, rfl, rfl, hrow, hg, hsz⟩ := hrel
      have HS := Lib.hid hsz
      clear hsz
      by_cases hlt : j < n
      · have hl := HL.out
        have hcell : ∀ m, m < n * 3 → wr.cell? ⟨g, m, none⟩ = some (.int .i64 (gd (marked k zs (j * 3)) m)) := fun m hm => by
          rw [World.ownsRow.cellAt hrow m hm, getD_ints _ m (by rw [marked_len k zs _ (by omega)]; omega)]
        have f0 := World.ownsRow.frozenAt hrow (j * 3)
        have f1 := World.ownsRow.frozenAt hrow (j * 3 + 1)
        have f2 := World.ownsRow.frozenAt hrow (j * 3 + 2)
        have c0 := hcell (j * 3) (by omega)
        have c1 := hcell (j * 3 + 1) (by omega)
        have c2 := hcell (j * 3 + 2) (by omega)
        have s0 := World.ownsRow.stored hrow (j * 3) (.int .i64 (k + ((j * 3 : Nat) : Int)))
        have s1 := World.ownsRow.stored s0.1 (j * 3 + 1) (.int .i64 (k + ((j * 3 + 1 : Nat) : Int)))
        have s2 := World.ownsRow.stored s1.1 (j * 3 + 2) (.int .i64 (k + ((j * 3 + 2 : Nat) : Int)))
        have hrow' := s2.1
        have hgg := Lib.grownBy_trans (Lib.grownBy_trans (Lib.grownBy_trans hg s0.2) s1.2) s2.2
        rw [show (((ints (marked k zs (j * 3))).set (j * 3) (.int .i64 (k + ((j * 3 : Nat) : Int)))).set (j * 3 + 1) (.int .i64 (k + ((j * 3 + 1 : Nat) : Int)))).set (j * 3 + 2) (.int .i64 (k + ((j * 3 + 2 : Nat) : Int))) = ints (marked k zs ((j + 1) * 3)) from by rw [← marked_set3 k zs j (by omega)]; unfold ints; simp only [List.map_set]] at hrow'
        have HF := Lib.hid (And.intro hrow' hgg)
        clear s0 s1 s2 hrow' hgg hcell hl
        obtain ⟨K, hK⟩ : ∃ K : Int, K = k + ((j * 3 : Nat) : Int) := ⟨_, rfl⟩
        have q1 : k + ((j * 3 + 1 : Nat) : Int) = K + 1 := by omega
        have q2 : k + ((j * 3 + 2 : Nat) : Int) = K + 1 + 1 := by omega
        rw [q1, q2, ← hK] at HF
        rw [← hK]
        have HK := Lib.hid hK
        have k0 : 0 ≤ K ∧ K ≤ 2000000000 := by omega
        obtain ⟨k01, k02⟩ := k0
        clear q1 q2 hK hrow hg
        go_wp2
        go_roundw
        case rel => exact ⟨j + 1, by omega, by go_num, by rw [show (((j + 1) * 3 : Nat) : Int) = ((j * 3 : Nat) : Int) + 3 by omega]; have := HK.out; go_num, HF.out.1, HF.out.2, by simpa using HS.out⟩
        case measure => simp [intOf]; omega
      · go_wp2
        go_ret
        obtain rfl : j = n := by omega
        refine ⟨rfl, ?_, hg, HS.out⟩
        rw [marked_end k zs _ (by have := HL.out; omega), HL.out] at hrow
        exact hrow
set_option maxHeartbeats 1000000 in
set_option maxRecDepth 100000 in
theorem heldRootS_any (w : World) (B : Nat) (v : Value) (n : Nat) (k : Int) (h : FS 52 3 w B v n (upFrom k (n * 3))) (hk : 0 ≤ k ∧ k ≤ 1000000000) (hz : n ≤ 1048576) : Calls Try.prog 22 #[v, .int .i64 k] w fun e w' => e = .returned (.int .i64 (k + ((n * 3 : Nat) : Int))) ∧ w = w' := by
  obtain ⟨hk0, hk1⟩ := hk
  obtain ⟨A, cap, rfl, hm, hp⟩ := h.parts
  have HP := Lib.hid hp
  clear hp h hm
  go_enter Try.func22, Try.ntmps22
  go_wp2
  go_loop [1, 5] (fun x i => ∃ j : Nat, j ≤ n ∧ i = .int .i64 j ∧ x = .int .i64 (k + ((j * 3 : Nat) : Int))) (fun _ i => n - (intOf i).toNat)
  case atStart => exact ⟨0, by omega, rfl, by simp⟩
  case round =>
    obtain ⟨j, hj, rfl, rfl⟩ := hrel
    by_cases hlt : j < n
    · obtain ⟨g, rfl, c0⟩ := HP.out (j * 3) (by omega)
      obtain ⟨g', hg, c1⟩ := HP.out (j * 3 + 1) (by omega)
      cases hg
      obtain ⟨g', hg, c2⟩ := HP.out (j * 3 + 2) (by omega)
      cases hg
      rw [upFrom_gd _ k (j * 3) (by omega)] at c0
      rw [upFrom_gd _ k (j * 3 + 1) (by omega)] at c1
      rw [upFrom_gd _ k (j * 3 + 2) (by omega)] at c2
      obtain ⟨K, hK⟩ : ∃ K : Int, K = k + ((j * 3 : Nat) : Int) := ⟨_, rfl⟩
      have q1 : k + ((j * 3 + 1 : Nat) : Int) = K + 1 := by omega
      have q2 : k + ((j * 3 + 2 : Nat) : Int) = K + 1 + 1 := by omega
      rw [q1] at c1
      rw [q2] at c2
      rw [← hK] at c0 ⊢
      have HK := Lib.hid hK
      have k0 : 0 ≤ K ∧ K ≤ 2000000000 := by omega
      obtain ⟨k01, k02⟩ := k0
      clear q1 q2 hK
      go_wp2
      go_round
      case rel => exact ⟨j + 1, by omega, by go_num, by rw [show (((j + 1) * 3 : Nat) : Int) = ((j * 3 : Nat) : Int) + 3 by omega]; have := HK.out; go_num⟩
      case measure => simp [intOf]; omega
    · go_wp2
      go_ret
      exact ⟨ret_i64 (by omega), rfl⟩
theorem tm_no1 {zs : List Int} {a b : Int} (h : poB zs = false) : tmB zs a b = false := by simp [tmB, h]
theorem tm_no2 {zs : List Int} {a b : Int} (h : frB a b = false) : tmB zs a b = false := by simp [tmB, h]
theorem tm_yes {zs : List Int} {a b : Int} (h : poB zs = true) (h' : frB a b = true) : tmB zs a b = true := by simp [tmB, h, h']
set_option maxHeartbeats 1000000 in
set_option maxRecDepth 100000 in
theorem specTimesOfRoot_any (w : World) (B : Nat) (v : Value) (zs : List Int) (a b : Int) (h : IS w B v zs) : Calls Try.prog 23 #[v, fracV a b] w fun e w' => e = .returned (.tuple #[.int .i64 (tmR zs a b), .bool (tmB zs a b)]) ∧ Below w.heap.size w w' := by
  have b0 : Below w.heap.size w (w.alloc (.cells #[.int .i64 a, .int .i64 b] 38)) := (Below.refl _ _).alloc (Nat.le_refl _) _
  have h1 : IS (w.alloc (.cells #[.int .i64 a, .int .i64 b] 38)) B v zs := h.alloc _
  have h2 := F2.new w a b
  have H := Lib.hid (And.intro h1 h2)
  clear h1 h2
  obtain ⟨A0, cap0, rfl, -, -⟩ := h.parts
  clear h
  cases hz : poB zs
  · have HQ := Lib.hid (tm_no1 (a := a) (b := b) hz)
    have HZ := Lib.hid hz
    go_enter Try.func23, Try.ntmps23
    go_wp2_with fail
    refine (poGood_any _ B _ zs H.out.1).mono ?_
    rintro e w' ⟨rfl, rfl⟩
    rw [HZ.out]
    go_wp2
    go_ret2
    exact ⟨ret_ib (tmR_no HQ.out).symm HQ.out.symm, b0⟩
  · cases hf : frB a b
    · have HQ := Lib.hid (tm_no2 (zs := zs) hf)
      have HZ := Lib.hid hz
      have HF := Lib.hid hf
      have HB := Lib.hid b0
      obtain ⟨c0, c1, -, -⟩ := H.out.2
      go_enter Try.func23, Try.ntmps23
      go_wp2_with fail
      refine (poGood_any _ B _ zs H.out.1).mono ?_
      rintro e w' ⟨rfl, rfl⟩
      rw [HZ.out]
      go_wp2_with fail
      refine (frGood_any _ _ _).mono ?_
      rintro e w1 ⟨rfl, b1⟩
      rw [HF.out]
      go_wp2
      go_ret2
      exact ⟨ret_ib (tmR_no HQ.out).symm HQ.out.symm, bel2 HB.out b1⟩
    · have HQ := Lib.hid (tm_yes hz hf)
      have HZ := Lib.hid hz
      have HF := Lib.hid hf
      have HB := Lib.hid b0
      obtain ⟨c0, c1, -, -⟩ := H.out.2
      go_enter Try.func23, Try.ntmps23
      go_wp2_with fail
      refine (poGood_any _ B _ zs H.out.1).mono ?_
      rintro e w' ⟨rfl, rfl⟩
      rw [HZ.out]
      go_wp2_with fail
      refine (frGood_any _ _ _).mono ?_
      rintro e w1 ⟨rfl, b1⟩
      rw [HF.out]
      go_wp2_with fail
      refine (rtRoots_any _ B _ zs (H.out.1.below b1) HZ.out).mono ?_
      rintro e w2 ⟨r, rfl, hr, b2⟩
      have B2 := bel2 (bel2 b0 b1) b2
      have hF := (H.out.2.below b1).below b2
      obtain ⟨A, cap, rfl, hm, hp⟩ := RS.parts hr
      have HP := Lib.hid hp
      obtain ⟨rs, hrs⟩ : ∃ rs, rs = rootsL zs := ⟨_, rfl⟩
      rw [← hrs] at HP hm
      have HR := Lib.hid (show tmR zs a b = tmO a b rs by rw [tmR_yes HQ.out, hrs])
      rw [← hrs]
      obtain ⟨n, hn⟩ : ∃ n, n = rs.length := ⟨_, rfl⟩
      have HN := Lib.hid hn
      rw [← hn] at hm ⊢
      unfold maxLen at hm
      have HB2 := Lib.hid B2
      have HF2 := Lib.hid hF
      have hg2 := cell_lt hF.1
      clear hp hn hrs hr hF c0 c1 b0 b1 b2 B2
      go_wp2
      go_loopw [19] (fun i wr => ∃ k : Nat, k ≤ n ∧ i = .int .i64 k ∧ Hid (tmO a b (rs.drop k) = tmO a b rs) ∧ Below w2.heap.size w2 wr) (fun i _ => n - (intOf i).toNat)
      case atStart => exact ⟨0, by omega, rfl, Lib.hid rfl, Below.refl _ _⟩
      case round =>
        obtain ⟨k, hk, rfl, ht, hb⟩ := hrel
        by_cases hlt : k < n
        · obtain ⟨g, rfl, a0, a1, a2⟩ := HP.out k (by rw [← HN.out]; exact hlt)
          have c0 := (hb.cell (cell_lt a0)).trans a0
          have c1 := (hb.cell (cell_lt a1)).trans a1
          have c2 := (hb.cell (cell_lt a2)).trans a2
          have hg := cell_lt c0
          obtain ⟨d0, d1, -, -⟩ := HF2.out.below hb
          have hg3 := cell_lt d0
          clear a0 a1 a2
          obtain ⟨N, D, T, hrd⟩ : ∃ N D T, rd rs k = (N, D, T) := ⟨_, _, _, rfl⟩
          have HM := Lib.hid (fun he => (tmO_miss (a := a) (b := b) (rs := rs) (k := k) (by rw [← HN.out]; exact hlt) he).symm.trans ht.out)
          have HH := Lib.hid (fun he => (tmO_hit (a := a) (b := b) (rs := rs) (k := k) (by rw [← HN.out]; exact hlt) he).symm.trans ht.out)
          rw [hrd] at c0 c1 c2 HM HH
          clear hrd
          by_cases he : N = a ∧ D = b
          · obtain ⟨rfl, rfl⟩ := he
            go_wp2
            go_ret2
            exact ⟨ret_ib ((HH.out (by simp)).trans HR.out.symm) HQ.out.symm, bel2 HB2.out (hb.alloc hb.size _)⟩
          · have HM2 := Lib.hid (HM.out (by simpa using he))
            clear HM HH
            go_wp2
            all_goals
              go_roundw
              case rel => exact ⟨k + 1, by omega, by go_num, HM2, hb.alloc hb.size _⟩
              case measure => simp [intOf]; omega
        · go_wp2
          go_ret2
          obtain rfl : k = n := by omega
          have e0 := ht.out
          rw [tmO_end _ _ _ _ (by rw [← HN.out]; omega)] at e0
          exact ⟨ret_ib (e0.trans HR.out.symm) HQ.out.symm, bel2 HB2.out hb⟩
set_option maxHeartbeats 1000000 in
set_option maxRecDepth 100000 in
theorem implTimesOfRoot_any (w : World) (B : Nat) (v : Value) (zs : List Int) (a b : Int) (h : IS w B v zs) : Calls Try.prog 25 #[v, fracV a b] w fun e w' => e = .returned (.tuple #[.int .i64 (tmR zs a b), .bool (tmB zs a b)]) ∧ Below w.heap.size w w' := by
  have b0 : Below w.heap.size w (w.alloc (.cells #[.int .i64 a, .int .i64 b] 38)) := (Below.refl _ _).alloc (Nat.le_refl _) _
  have h1 : IS (w.alloc (.cells #[.int .i64 a, .int .i64 b] 38)) B v zs := h.alloc _
  have h2 := F2.new w a b
  have H := Lib.hid (And.intro h1 h2)
  clear h1 h2
  obtain ⟨A0, cap0, rfl, -, -⟩ := h.parts
  clear h
  cases hz : poB zs
  · have HQ := Lib.hid (tm_no1 (a := a) (b := b) hz)
    have HZ := Lib.hid hz
    go_enter Try.func25, Try.ntmps25
    go_wp2_with fail
    refine (implRootsOf_any _ B _ zs H.out.1).mono ?_
    rintro e w1 ⟨r, rfl, -, b1⟩
    rw [HZ.out]
    go_wp2
    go_ret2
    exact ⟨ret_ib (tmR_no HQ.out).symm HQ.out.symm, bel2 b0 b1⟩
  · cases hf : frB a b
    · have HQ := Lib.hid (tm_no2 (zs := zs) hf)
      have HZ := Lib.hid hz
      have HF := Lib.hid hf
      have HB := Lib.hid b0
      go_enter Try.func25, Try.ntmps25
      go_wp2_with fail
      refine (implRootsOf_any _ B _ zs H.out.1).mono ?_
      rintro e w1 ⟨r, rfl, hr, b1⟩
      obtain ⟨c0, c1, -, -⟩ := H.out.2.below b1
      rw [HZ.out]
      go_wp2_with fail
      refine (isFrac_any _ _ _).mono ?_
      rintro e w2 ⟨rfl, b2⟩
      rw [HF.out]
      go_wp2
      go_ret2
      exact ⟨ret_ib (tmR_no HQ.out).symm HQ.out.symm, bel2 (bel2 HB.out b1) b2⟩
    · have HQ := Lib.hid (tm_yes hz hf)
      have HZ := Lib.hid hz
      have HF := Lib.hid hf
      have HB := Lib.hid b0
      go_enter Try.func25, Try.ntmps25
      go_wp2_with fail
      refine (implRootsOf_any _ B _ zs H.out.1).mono ?_
      rintro e w1 ⟨r, rfl, hr0, b1⟩
      rw [rootsR_yes HZ.out] at hr0
      obtain ⟨c0, c1, -, -⟩ := H.out.2.below b1
      rw [HZ.out]
      go_wp2_with fail
      refine (isFrac_any _ _ _).mono ?_
      rintro e w2 ⟨rfl, b2⟩
      rw [HF.out]
      have hr := FS.below hr0 b2
      have B2 := bel2 (bel2 b0 b1) b2
      have hF := (H.out.2.below b1).below b2
      clear hr0
      obtain ⟨A, cap, rfl, hm, hp⟩ := RS.parts hr
      have HP := Lib.hid hp
      obtain ⟨rs, hrs⟩ : ∃ rs, rs = rootsL zs := ⟨_, rfl⟩
      rw [← hrs] at HP hm
      have HR := Lib.hid (show tmR zs a b = tmO a b rs by rw [tmR_yes HQ.out, hrs])
      rw [← hrs]
      obtain ⟨n, hn⟩ : ∃ n, n = rs.length := ⟨_, rfl⟩
      have HN := Lib.hid hn
      rw [← hn] at hm ⊢
      unfold maxLen at hm
      have HB2 := Lib.hid B2
      have HF2 := Lib.hid hF
      have hg2 := cell_lt hF.1
      clear hp hn hrs hr hF c0 c1 b0 b1 b2 B2
      go_wp2
      go_loopw [24] (fun i wr => ∃ k : Nat, k ≤ n ∧ i = .int .i64 k ∧ Hid (tmO a b (rs.drop k) = tmO a b rs) ∧ Below w2.heap.size w2 wr) (fun i _ => n - (intOf i).toNat)
      case atStart => exact ⟨0, by omega, rfl, Lib.hid rfl, Below.refl _ _⟩
      case round =>
        obtain ⟨k, hk, rfl, ht, hb⟩ := hrel
        by_cases hlt : k < n
        · obtain ⟨g, rfl, a0, a1, a2⟩ := HP.out k (by rw [← HN.out]; exact hlt)
          have c0 := (hb.cell (cell_lt a0)).trans a0
          have c1 := (hb.cell (cell_lt a1)).trans a1
          have c2 := (hb.cell (cell_lt a2)).trans a2
          have hg := cell_lt c0
          obtain ⟨d0, d1, -, -⟩ := HF2.out.below hb
          have hg3 := cell_lt d0
          clear a0 a1 a2
          obtain ⟨N, D, T, hrd⟩ : ∃ N D T, rd rs k = (N, D, T) := ⟨_, _, _, rfl⟩
          have HM := Lib.hid (fun he => (tmO_miss (a := a) (b := b) (rs := rs) (k := k) (by rw [← HN.out]; exact hlt) he).symm.trans ht.out)
          have HH := Lib.hid (fun he => (tmO_hit (a := a) (b := b) (rs := rs) (k := k) (by rw [← HN.out]; exact hlt) he).symm.trans ht.out)
          rw [hrd] at c0 c1 c2 HM HH
          clear hrd
          by_cases he : N = a ∧ D = b
          · obtain ⟨rfl, rfl⟩ := he
            go_wp2
            go_ret2
            exact ⟨ret_ib ((HH.out (by simp)).trans HR.out.symm) HQ.out.symm, bel2 HB2.out (hb.alloc hb.size _)⟩
          · have HM2 := Lib.hid (HM.out (by simpa using he))
            clear HM HH
            go_wp2
            all_goals
              go_roundw
              case rel => exact ⟨k + 1, by omega, by go_num, HM2, hb.alloc hb.size _⟩
              case measure => simp [intOf]; omega
        · go_wp2
          go_ret2
          obtain rfl : k = n := by omega
          have e0 := ht.out
          rw [tmO_end _ _ _ _ (by rw [← HN.out]; omega)] at e0
          exact ⟨ret_ib (e0.trans HR.out.symm) HQ.out.symm, bel2 HB2.out hb⟩
end Go.Proofs.Ytinijfkidjakpaa
