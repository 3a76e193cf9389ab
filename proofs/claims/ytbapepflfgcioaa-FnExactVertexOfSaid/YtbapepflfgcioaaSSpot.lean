/-
  Slices of the struct Spot in the laws: compared, marked, read again, copied.
  Conditions: the slices are not too long, and read as the cells that are named.
-/
import Derived.Test.YtbapepflfgcioaaCuV
namespace Go.Proofs.Ytbapepflfgcioaa
set_option linter.unusedSimpArgs false
set_option linter.unusedVariables false
open Go.ChangeShapes Go.WideShapes Go.ChangeAt Go.RowKit
open Go.Sort (grow)

theorem eqFracG (a b : Int) (w : World) : Calls Try.prog 32 #[fracV a b, fracV a b] w fun e w' => e = .returned (.bool true) ∧ Gr w w' := by
  go_enter Try.func32, Try.ntmps32
  go_wp2
  go_ret
  exact ⟨rfl, gr2 _ _ _⟩
set_option maxHeartbeats 1000000 in
theorem eqSpot_same (a b c d : Int) (w : World) : Calls Try.prog 11 #[spV a b c d, spV a b c d] w fun e w' => e = .returned (.bool true) ∧ Gr w w' := by
  have h1 := (Q4.new w a b c d).below ((Below.refl _ _).alloc (Nat.le_refl _) (.cells #[.int .i64 a, .int .i64 b, .int .i64 c, .int .i64 d] 27))
  have h2 := Q4.new (w.alloc (.cells #[.int .i64 a, .int .i64 b, .int .i64 c, .int .i64 d] 27)) a b c d
  rw [World.size_alloc] at h2
  have HG := Lib.hid (gr2 w (.cells #[.int .i64 a, .int .i64 b, .int .i64 c, .int .i64 d] 27) (.cells #[.int .i64 a, .int .i64 b, .int .i64 c, .int .i64 d] 27))
  go_enter Try.func11, Try.ntmps11
  go_upto_region 1 with fail
  generalize (w.alloc (.cells #[.int .i64 a, .int .i64 b, .int .i64 c, .int .i64 d] 27)).alloc (.cells #[.int .i64 a, .int .i64 b, .int .i64 c, .int .i64 d] 27) = w2 at h1 h2 HG ⊢
  have H1 := Lib.hid h1
  have H2 := Lib.hid h2
  obtain ⟨⟨x0, x1, x2, x3⟩, -⟩ := h1.cells
  obtain ⟨⟨y0, y1, y2, y3⟩, -⟩ := h2.cells
  clear h1 h2
  go_wp2_with fail
  refine (eqFracG a b _).mono ?_
  rintro e w3 ⟨rfl, hg⟩
  obtain ⟨⟨z0, z1, z2, z3⟩, -⟩ := (H1.out.below hg.below).cells
  obtain ⟨⟨u0, u1, u2, u3⟩, -⟩ := (H2.out.below hg.below).cells
  have HG3 := Lib.hid (HG.out.trans hg)
  clear x0 x1 x2 x3 y0 y1 y2 y3 hg
  go_wp2_with fail
  refine (eqFracG c d _).mono ?_
  rintro e w4 ⟨rfl, hg⟩
  have HG4 := Lib.hid (HG3.out.trans hg)
  clear z0 z1 z2 z3 u0 u1 u2 u3 hg
  go_wp2
  go_ret
  exact ⟨rfl, HG4.out⟩
set_option maxHeartbeats 1000000 in
set_option maxRecDepth 100000 in
theorem eqSpotS_same (w : World) (B B' : Nat) (v v' : Value) (n : Nat) (zs : List Int) (h : FS 27 4 w B v n zs) (h' : FS 27 4 w B' v' n zs) : Calls Try.prog 15 #[v, v'] w fun e w' => e = .returned (.bool true) ∧ Below w.heap.size w w' := by
  obtain ⟨A, cap, rfl, hm, hp⟩ := FS.parts h
  obtain ⟨A', cap', rfl, -, hp'⟩ := FS.parts h'
  have HP := Lib.hid hp
  have HP' := Lib.hid hp'
  have HE := Lib.hid (fun a b c d W => eqSpot_same a b c d W)
  unfold maxLen at hm
  clear hp hp' h h'
  go_enter Try.func15, Try.ntmps15
  go_wp2
  go_loopw [5] (fun i wr => ∃ j : Nat, j ≤ n ∧ i = .int .i64 j ∧ Below w.heap.size w wr) (fun i _ => n - (intOf i).toNat)
  case atStart => exact ⟨0, by omega, rfl, Below.refl _ _⟩
  case round =>
    obtain ⟨j, hj, rfl, hb⟩ := hrel
    by_cases hlt : j < n
    · obtain ⟨g, rfl, a0⟩ := HP.out (j * 4) (by omega)
      obtain ⟨gg, hgg, a1⟩ := HP.out (j * 4 + 1) (by omega)
      cases hgg
      obtain ⟨gg, hgg, a2⟩ := HP.out (j * 4 + 2) (by omega)
      cases hgg
      obtain ⟨gg, hgg, a3⟩ := HP.out (j * 4 + 3) (by omega)
      cases hgg
      obtain ⟨g', rfl, b0⟩ := HP'.out (j * 4) (by omega)
      obtain ⟨gg, hgg, b1⟩ := HP'.out (j * 4 + 1) (by omega)
      cases hgg
      obtain ⟨gg, hgg, b2⟩ := HP'.out (j * 4 + 2) (by omega)
      cases hgg
      obtain ⟨gg, hgg, b3⟩ := HP'.out (j * 4 + 3) (by omega)
      cases hgg
      have c0 := cell_grown (cell_lt ((hb.cell (cell_lt a0)).trans a0)) ((hb.cell (cell_lt a0)).trans a0)
      have c1 := cell_grown (cell_lt ((hb.cell (cell_lt a1)).trans a1)) ((hb.cell (cell_lt a1)).trans a1)
      have c2 := cell_grown (cell_lt ((hb.cell (cell_lt a2)).trans a2)) ((hb.cell (cell_lt a2)).trans a2)
      have c3 := cell_grown (cell_lt ((hb.cell (cell_lt a3)).trans a3)) ((hb.cell (cell_lt a3)).trans a3)
      have d0 := cell_grown (cell_lt ((hb.cell (cell_lt b0)).trans b0)) ((hb.cell (cell_lt b0)).trans b0)
      have d1 := cell_grown (cell_lt ((hb.cell (cell_lt b1)).trans b1)) ((hb.cell (cell_lt b1)).trans b1)
      have d2 := cell_grown (cell_lt ((hb.cell (cell_lt b2)).trans b2)) ((hb.cell (cell_lt b2)).trans b2)
      have d3 := cell_grown (cell_lt ((hb.cell (cell_lt b3)).trans b3)) ((hb.cell (cell_lt b3)).trans b3)
      clear a0 b0 a1 b1 a2 b2 a3 b3
      go_wp2_with fail
      refine wp_region_quiet_grown (by kernel_rfl) (by kernel_rfl) ?_
      repeat (go_big_quiet_step ((first | (go_at_call 11; refine Calls.grown_of (HE.out _ _ _ _ _)))))
      refine wpQuiet_nil ?_
      intro _ hw'
      obtain ⟨⟨nq, osq⟩, hw''⟩ := hw'
      subst hw''
      go_wp2
      go_roundw
      case rel => exact ⟨j + 1, by omega, by go_num, bel2 hb (grB _ _)⟩
      case measure => simp [intOf]; omega
    · go_wp2
      go_ret
      exact ⟨rfl, hb⟩
theorem marked_Spot (k : Int) (zs : List Int) (j : Nat) (hj : j * 4 + 3 < zs.length) : ((((marked k zs (j * 4)).set (j * 4) (k + ((j * 4 : Nat) : Int))).set (j * 4 + 1) (k + ((j * 4 + 1 : Nat) : Int))).set (j * 4 + 2) (k + ((j * 4 + 2 : Nat) : Int))).set (j * 4 + 3) (k + ((j * 4 + 3 : Nat) : Int)) = marked k zs ((j + 1) * 4) := by
  rw [marked_set k zs (j * 4) (by omega), marked_set k zs (j * 4 + 1) (by omega), marked_set k zs (j * 4 + 2) (by omega), marked_set k zs (j * 4 + 3) hj]
  congr 1
  omega
set_option maxHeartbeats 1000000 in
set_option maxRecDepth 100000 in
theorem markSpotS_any (w : World) (B : Nat) (v : Value) (n : Nat) (zs : List Int) (k : Int) (h : FS 27 4 w B v n zs) (hk : 0 ≤ k ∧ k ≤ 1000000000) (hz : n ≤ 1048576) : Calls Try.prog 17 #[v, .int .i64 k] w fun e w' => MarksF 27 4 B v k n w e w' := by
  obtain ⟨hk0, hk1⟩ := hk
  have hlen := h.len
  rcases h.2 with ⟨rfl, h0⟩ | ⟨g, cap, cur, rfl, hBg, -, -⟩
  · subst h0
    have hnil : zs = [] := List.eq_nil_of_length_eq_zero (by omega)
    subst hnil
    go_enter Try.func17, Try.ntmps17
    go_wp2
    go_rounds 1
    go_ret
    exact ⟨ret_i64 (by simp), h, World.grownBy.refl _ _, rfl⟩
  · have H := Lib.hid h
    have HL := Lib.hid hlen
    clear h hlen
    go_enter Try.func17, Try.ntmps17
    go_wp2
    go_loopw [1, 5] (fun x i wr => ∃ j : Nat, j ≤ n ∧ i = .int .i64 j ∧ x = .int .i64 (k + ((j * 4 : Nat) : Int)) ∧ wr.ownsRow B 27 4 (.slice (some ⟨g, 0, none⟩) n cap) n (ints (marked k zs (j * 4))) ∧ w.grownBy wr (some g) ∧ wr.heap.size = w.heap.size) (fun _ i _ => n - (intOf i).toNat)
    case atStart => exact ⟨0, by omega, rfl, by simp, by have := H.out; unfold FS at this; simpa [marked] using this, World.grownBy.refl _ _, rfl⟩
    case round =>
      obtain ⟨j, hj, rfl, rfl, hrow, hg, hsz⟩ := hrel
      have HS := Lib.hid hsz
      clear hsz
      by_cases hlt : j < n
      · have hl := HL.out
        have hcell : ∀ m, m < n * 4 → wr.cell? ⟨g, m, none⟩ = some (.int .i64 (gd (marked k zs (j * 4)) m)) := fun m hm => by
          rw [World.ownsRow.cellAt hrow m hm, getD_ints _ m (by rw [marked_len k zs _ (by omega)]; omega)]
        have f0 := World.ownsRow.frozenAt hrow (j * 4)
        have f1 := World.ownsRow.frozenAt hrow (j * 4 + 1)
        have f2 := World.ownsRow.frozenAt hrow (j * 4 + 2)
        have f3 := World.ownsRow.frozenAt hrow (j * 4 + 3)
        have c0 := hcell (j * 4) (by omega)
        have c1 := hcell (j * 4 + 1) (by omega)
        have c2 := hcell (j * 4 + 2) (by omega)
        have c3 := hcell (j * 4 + 3) (by omega)
        have s0 := World.ownsRow.stored hrow (j * 4) (.int .i64 (k + ((j * 4 : Nat) : Int)))
        have s1 := World.ownsRow.stored s0.1 (j * 4 + 1) (.int .i64 (k + ((j * 4 + 1 : Nat) : Int)))
        have s2 := World.ownsRow.stored s1.1 (j * 4 + 2) (.int .i64 (k + ((j * 4 + 2 : Nat) : Int)))
        have s3 := World.ownsRow.stored s2.1 (j * 4 + 3) (.int .i64 (k + ((j * 4 + 3 : Nat) : Int)))
        have hrow' := s3.1
        have hgg := Lib.grownBy_trans (Lib.grownBy_trans (Lib.grownBy_trans (Lib.grownBy_trans hg s0.2) s1.2) s2.2) s3.2
        rw [show ((((ints (marked k zs (j * 4))).set (j * 4) (.int .i64 (k + ((j * 4 : Nat) : Int)))).set (j * 4 + 1) (.int .i64 (k + ((j * 4 + 1 : Nat) : Int)))).set (j * 4 + 2) (.int .i64 (k + ((j * 4 + 2 : Nat) : Int)))).set (j * 4 + 3) (.int .i64 (k + ((j * 4 + 3 : Nat) : Int))) = ints (marked k zs ((j + 1) * 4)) from by rw [← marked_Spot k zs j (by omega)]; unfold ints; simp only [List.map_set]] at hrow'
        have HF := Lib.hid (And.intro hrow' hgg)
        clear s0 s1 s2 s3 hrow' hgg hcell hl
        obtain ⟨K, hK⟩ : ∃ K : Int, K = k + ((j * 4 : Nat) : Int) := ⟨_, rfl⟩
        have q1 : k + ((j * 4 + 1 : Nat) : Int) = K + 1 := by omega
        have q2 : k + ((j * 4 + 2 : Nat) : Int) = K + 1 + 1 := by omega
        have q3 : k + ((j * 4 + 3 : Nat) : Int) = K + 1 + 1 + 1 := by omega
        rw [q1, q2, q3, ← hK] at HF
        rw [← hK]
        have HK := Lib.hid hK
        have k0 : 0 ≤ K ∧ K ≤ 2000000000000 := by omega
        obtain ⟨k01, k02⟩ := k0
        clear q1 q2 q3 hK hrow hg
        go_wp2
        go_roundw
        case rel => exact ⟨j + 1, by omega, by go_num, by rw [show (((j + 1) * 4 : Nat) : Int) = ((j * 4 : Nat) : Int) + 4 by omega]; have := HK.out; go_num, HF.out.1, HF.out.2, by simpa using HS.out⟩
        case measure => simp [intOf]; omega
      · go_wp2
        go_ret
        obtain rfl : j = n := by omega
        refine ⟨rfl, ?_, hg, HS.out⟩
        rw [marked_end k zs _ (by have := HL.out; omega), HL.out] at hrow
        exact hrow
set_option maxHeartbeats 1000000 in
set_option maxRecDepth 100000 in
theorem heldSpotS_any (w : World) (B : Nat) (v : Value) (n : Nat) (k : Int) (h : FS 27 4 w B v n (upFrom k (n * 4))) (hk : 0 ≤ k ∧ k ≤ 1000000000) (hz : n ≤ 1048576) : Calls Try.prog 18 #[v, .int .i64 k] w fun e w' => e = .returned (.int .i64 (k + ((n * 4 : Nat) : Int))) ∧ w = w' := by
  obtain ⟨hk0, hk1⟩ := hk
  obtain ⟨A, cap, rfl, hm, hp⟩ := h.parts
  have HP := Lib.hid hp
  clear hp h hm
  go_enter Try.func18, Try.ntmps18
  go_wp2
  go_loop [1, 5] (fun x i => ∃ j : Nat, j ≤ n ∧ i = .int .i64 j ∧ x = .int .i64 (k + ((j * 4 : Nat) : Int))) (fun _ i => n - (intOf i).toNat)
  case atStart => exact ⟨0, by omega, rfl, by simp⟩
  case round =>
    obtain ⟨j, hj, rfl, rfl⟩ := hrel
    by_cases hlt : j < n
    · obtain ⟨g, rfl, c0⟩ := HP.out (j * 4) (by omega)
      obtain ⟨g', hg, c1⟩ := HP.out (j * 4 + 1) (by omega)
      cases hg
      obtain ⟨g', hg, c2⟩ := HP.out (j * 4 + 2) (by omega)
      cases hg
      obtain ⟨g', hg, c3⟩ := HP.out (j * 4 + 3) (by omega)
      cases hg
      rw [upFrom_gd _ k (j * 4) (by omega)] at c0
      rw [upFrom_gd _ k (j * 4 + 1) (by omega)] at c1
      rw [upFrom_gd _ k (j * 4 + 2) (by omega)] at c2
      rw [upFrom_gd _ k (j * 4 + 3) (by omega)] at c3
      obtain ⟨K, hK⟩ : ∃ K : Int, K = k + ((j * 4 : Nat) : Int) := ⟨_, rfl⟩
      have q1 : k + ((j * 4 + 1 : Nat) : Int) = K + 1 := by omega
      rw [q1] at c1
      have q2 : k + ((j * 4 + 2 : Nat) : Int) = K + 1 + 1 := by omega
      rw [q2] at c2
      have q3 : k + ((j * 4 + 3 : Nat) : Int) = K + 1 + 1 + 1 := by omega
      rw [q3] at c3
      rw [← hK] at c0 ⊢
      have HK := Lib.hid hK
      have k0 : 0 ≤ K ∧ K ≤ 2000000000000 := by omega
      obtain ⟨k01, k02⟩ := k0
      clear q1 q2 q3 hK
      go_wp2
      go_round
      case rel => exact ⟨j + 1, by omega, by go_num, by rw [show (((j + 1) * 4 : Nat) : Int) = ((j * 4 : Nat) : Int) + 4 by omega]; have := HK.out; go_num⟩
      case measure => simp [intOf]; omega
    · go_wp2
      go_ret
      exact ⟨ret_i64 (by omega), rfl⟩
end Go.Proofs.Ytbapepflfgcioaa
