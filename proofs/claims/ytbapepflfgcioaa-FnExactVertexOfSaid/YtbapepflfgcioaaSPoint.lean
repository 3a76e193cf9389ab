/-
  Slices of the struct Point in the laws: compared, marked, read again, copied.
  Conditions: the slices are not too long, and read as the cells that are named.
-/
import Derived.Test.YtbapepflfgcioaaGr
namespace Go.Proofs.Ytbapepflfgcioaa
set_option linter.unusedSimpArgs false
set_option linter.unusedVariables false
open Go.ChangeShapes Go.WideShapes Go.ChangeAt Go.RowKit
open Go.Sort (grow)

theorem eqPoint_same (a b : Int) (w : World) : Calls Try.prog 48 #[.agg #[.int .i64 a, .int .i64 b], .agg #[.int .i64 a, .int .i64 b]] w fun e w' => e = .returned (.bool true) ∧ Gr w w' := by
  go_enter Try.func48, Try.ntmps48
  go_wp2
  go_ret
  exact ⟨rfl, gr2 _ _ _⟩
set_option maxHeartbeats 1000000 in
set_option maxRecDepth 100000 in
theorem eqPointS_same (w : World) (B B' : Nat) (v v' : Value) (n : Nat) (zs : List Int) (h : FS 81 2 w B v n zs) (h' : FS 81 2 w B' v' n zs) : Calls Try.prog 24 #[v, v'] w fun e w' => e = .returned (.bool true) ∧ Below w.heap.size w w' := by
  obtain ⟨A, cap, rfl, hm, hp⟩ := FS.parts h
  obtain ⟨A', cap', rfl, -, hp'⟩ := FS.parts h'
  have HP := Lib.hid hp
  have HP' := Lib.hid hp'
  have HE := Lib.hid (fun a b W => eqPoint_same a b W)
  unfold maxLen at hm
  clear hp hp' h h'
  go_enter Try.func24, Try.ntmps24
  go_wp2
  go_loopw [5] (fun i wr => ∃ j : Nat, j ≤ n ∧ i = .int .i64 j ∧ Below w.heap.size w wr) (fun i _ => n - (intOf i).toNat)
  case atStart => exact ⟨0, by omega, rfl, Below.refl _ _⟩
  case round =>
    obtain ⟨j, hj, rfl, hb⟩ := hrel
    by_cases hlt : j < n
    · obtain ⟨g, rfl, a0⟩ := HP.out (j * 2) (by omega)
      obtain ⟨gg, hgg, a1⟩ := HP.out (j * 2 + 1) (by omega)
      cases hgg
      obtain ⟨g', rfl, b0⟩ := HP'.out (j * 2) (by omega)
      obtain ⟨gg, hgg, b1⟩ := HP'.out (j * 2 + 1) (by omega)
      cases hgg
      have c0 := cell_grown (cell_lt ((hb.cell (cell_lt a0)).trans a0)) ((hb.cell (cell_lt a0)).trans a0)
      have c1 := cell_grown (cell_lt ((hb.cell (cell_lt a1)).trans a1)) ((hb.cell (cell_lt a1)).trans a1)
      have d0 := cell_grown (cell_lt ((hb.cell (cell_lt b0)).trans b0)) ((hb.cell (cell_lt b0)).trans b0)
      have d1 := cell_grown (cell_lt ((hb.cell (cell_lt b1)).trans b1)) ((hb.cell (cell_lt b1)).trans b1)
      clear a0 b0 a1 b1
      go_wp2_with fail
      refine wp_region_quiet_grown (by kernel_rfl) (by kernel_rfl) ?_
      repeat (go_big_quiet_step ((first | (go_at_call 48; refine Calls.grown_of (HE.out _ _ _)))))
      refine wpQuiet_nil ?_
      intro _ hw'
      obtain ⟨⟨nq, osq⟩, hw''⟩ := hw'
      subst hw''
      go_wp2
      go_roundw
      case rel => exact ⟨j + 1, by omega, by go_num, bel2 hb (grB _ _)⟩
      case measure => simp [intOf]; omega
    · go_wp2
      go_ret
      exact ⟨rfl, hb⟩
theorem marked_Point (k : Int) (zs : List Int) (j : Nat) (hj : j * 2 + 1 < zs.length) : ((marked k zs (j * 2)).set (j * 2) (k + ((j * 2 : Nat) : Int))).set (j * 2 + 1) (k + ((j * 2 + 1 : Nat) : Int)) = marked k zs ((j + 1) * 2) := by
  rw [marked_set k zs (j * 2) (by omega), marked_set k zs (j * 2 + 1) hj]
  congr 1
  omega
set_option maxHeartbeats 1000000 in
set_option maxRecDepth 100000 in
theorem markPointS_any (w : World) (B : Nat) (v : Value) (n : Nat) (zs : List Int) (k : Int) (h : FS 81 2 w B v n zs) (hk : 0 ≤ k ∧ k ≤ 1000000000) (hz : n ≤ 1048576) : Calls Try.prog 25 #[v, .int .i64 k] w fun e w' => MarksF 81 2 B v k n w e w' := by
  obtain ⟨hk0, hk1⟩ := hk
  have hlen := h.len
  rcases h.2 with ⟨rfl, h0⟩ | ⟨g, cap, cur, rfl, hBg, -, -⟩
  · subst h0
    have hnil : zs = [] := List.eq_nil_of_length_eq_zero (by omega)
    subst hnil
    go_enter Try.func25, Try.ntmps25
    go_wp2
    go_rounds 1
    go_ret
    exact ⟨ret_i64 (by simp), h, World.grownBy.refl _ _, rfl⟩
  · have H := Lib.hid h
    have HL := Lib.hid hlen
    clear h hlen
    go_enter Try.func25, Try.ntmps25
    go_wp2
    go_loopw [1, 5] (fun x i wr => ∃ j : Nat, j ≤ n ∧ i = .int .i64 j ∧ x = .int .i64 (k + ((j * 2 : Nat) : Int)) ∧ wr.ownsRow B 81 2 (.slice (some ⟨g, 0, none⟩) n cap) n (ints (marked k zs (j * 2))) ∧ w.grownBy wr (some g) ∧ wr.heap.size = w.heap.size) (fun _ i _ => n - (intOf i).toNat)
    case atStart => exact ⟨0, by omega, rfl, by simp, by have := H.out; unfold FS at this; simpa [marked] using this, World.grownBy.refl _ _, rfl⟩
    case round =>
      obtain ⟨j, hj, rfl, rfl, hrow, hg, hsz⟩ := hrel
      have HS := Lib.hid hsz
      clear hsz
      by_cases hlt : j < n
      · have hl := HL.out
        have hcell : ∀ m, m < n * 2 → wr.cell? ⟨g, m, none⟩ = some (.int .i64 (gd (marked k zs (j * 2)) m)) := fun m hm => by
          rw [World.ownsRow.cellAt hrow m hm, getD_ints _ m (by rw [marked_len k zs _ (by omega)]; omega)]
        have f0 := World.ownsRow.frozenAt hrow (j * 2)
        have f1 := World.ownsRow.frozenAt hrow (j * 2 + 1)
        have c0 := hcell (j * 2) (by omega)
        have c1 := hcell (j * 2 + 1) (by omega)
        have s0 := World.ownsRow.stored hrow (j * 2) (.int .i64 (k + ((j * 2 : Nat) : Int)))
        have s1 := World.ownsRow.stored s0.1 (j * 2 + 1) (.int .i64 (k + ((j * 2 + 1 : Nat) : Int)))
        have hrow' := s1.1
        have hgg := Lib.grownBy_trans (Lib.grownBy_trans hg s0.2) s1.2
        rw [show ((ints (marked k zs (j * 2))).set (j * 2) (.int .i64 (k + ((j * 2 : Nat) : Int)))).set (j * 2 + 1) (.int .i64 (k + ((j * 2 + 1 : Nat) : Int))) = ints (marked k zs ((j + 1) * 2)) from by rw [← marked_Point k zs j (by omega)]; unfold ints; simp only [List.map_set]] at hrow'
        have HF := Lib.hid (And.intro hrow' hgg)
        clear s0 s1 hrow' hgg hcell hl
        obtain ⟨K, hK⟩ : ∃ K : Int, K = k + ((j * 2 : Nat) : Int) := ⟨_, rfl⟩
        have q1 : k + ((j * 2 + 1 : Nat) : Int) = K + 1 := by omega
        rw [q1, ← hK] at HF
        rw [← hK]
        have HK := Lib.hid hK
        have k0 : 0 ≤ K ∧ K ≤ 2000000000000 := by omega
        obtain ⟨k01, k02⟩ := k0
        clear q1 hK hrow hg
        go_wp2
        go_roundw
        case rel => exact ⟨j + 1, by omega, by go_num, by rw [show (((j + 1) * 2 : Nat) : Int) = ((j * 2 : Nat) : Int) + 2 by omega]; have := HK.out; go_num, HF.out.1, HF.out.2, by simpa using HS.out⟩
        case measure => simp [intOf]; omega
      · go_wp2
        go_ret
        obtain rfl : j = n := by omega
        refine ⟨rfl, ?_, hg, HS.out⟩
        rw [marked_end k zs _ (by have := HL.out; omega), HL.out] at hrow
        exact hrow
set_option maxHeartbeats 1000000 in
set_option maxRecDepth 100000 in
theorem heldPointS_any (w : World) (B : Nat) (v : Value) (n : Nat) (k : Int) (h : FS 81 2 w B v n (upFrom k (n * 2))) (hk : 0 ≤ k ∧ k ≤ 1000000000) (hz : n ≤ 1048576) : Calls Try.prog 26 #[v, .int .i64 k] w fun e w' => e = .returned (.int .i64 (k + ((n * 2 : Nat) : Int))) ∧ w = w' := by
  obtain ⟨hk0, hk1⟩ := hk
  obtain ⟨A, cap, rfl, hm, hp⟩ := h.parts
  have HP := Lib.hid hp
  clear hp h hm
  go_enter Try.func26, Try.ntmps26
  go_wp2
  go_loop [1, 5] (fun x i => ∃ j : Nat, j ≤ n ∧ i = .int .i64 j ∧ x = .int .i64 (k + ((j * 2 : Nat) : Int))) (fun _ i => n - (intOf i).toNat)
  case atStart => exact ⟨0, by omega, rfl, by simp⟩
  case round =>
    obtain ⟨j, hj, rfl, rfl⟩ := hrel
    by_cases hlt : j < n
    · obtain ⟨g, rfl, c0⟩ := HP.out (j * 2) (by omega)
      obtain ⟨g', hg, c1⟩ := HP.out (j * 2 + 1) (by omega)
      cases hg
      rw [upFrom_gd _ k (j * 2) (by omega)] at c0
      rw [upFrom_gd _ k (j * 2 + 1) (by omega)] at c1
      obtain ⟨K, hK⟩ : ∃ K : Int, K = k + ((j * 2 : Nat) : Int) := ⟨_, rfl⟩
      have q1 : k + ((j * 2 + 1 : Nat) : Int) = K + 1 := by omega
      rw [q1] at c1
      rw [← hK] at c0 ⊢
      have HK := Lib.hid hK
      have k0 : 0 ≤ K ∧ K ≤ 2000000000000 := by omega
      obtain ⟨k01, k02⟩ := k0
      clear q1 hK
      go_wp2
      go_round
      case rel => exact ⟨j + 1, by omega, by go_num, by rw [show (((j + 1) * 2 : Nat) : Int) = ((j * 2 : Nat) : Int) + 2 by omega]; have := HK.out; go_num⟩
      case measure => simp [intOf]; omega
    · go_wp2
      go_ret
      exact ⟨ret_i64 (by omega), rfl⟩
end Go.Proofs.Ytbapepflfgcioaa
