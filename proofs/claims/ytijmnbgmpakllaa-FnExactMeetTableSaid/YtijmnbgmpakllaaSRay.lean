/-
  Slices of the struct Ray in the laws: compared, marked, read again, copied.
  Conditions: the slices are not too long, and read as the cells that are named.
-/
import Derived.Test.YtijmnbgmpakllaaSTerm
namespace Go.Proofs.Ytijmnbgmpakllaa
set_option linter.unusedSimpArgs false
set_option linter.unusedVariables false
open Go.ChangeShapes Go.WideShapes Go.ChangeAt Go.RowKit
open Go.Sort (grow)

theorem eqRay_same (a b c : Int) (w : World) : Calls Try.prog 64 #[.agg #[.int .i64 a, .int .i64 b, .int .i64 c], .agg #[.int .i64 a, .int .i64 b, .int .i64 c]] w fun e w' => e = .returned (.bool true) ∧ Gr w w' := by
  go_enter Try.func64, Try.ntmps64
  go_wp2
  go_ret
  exact ⟨rfl, gr2 _ _ _⟩
set_option maxHeartbeats 1000000 in
set_option maxRecDepth 100000 in
theorem eqRayS_same (w : World) (B B' : Nat) (v v' : Value) (n : Nat) (zs : List Int) (h : FS 26 3 w B v n zs) (h' : FS 26 3 w B' v' n zs) : Calls Try.prog 26 #[v, v'] w fun e w' => e = .returned (.bool true) ∧ Below w.heap.size w w' := by
  obtain ⟨A, cap, rfl, hm, hp⟩ := FS.parts h
  obtain ⟨A', cap', rfl, -, hp'⟩ := FS.parts h'
  have HP := Lib.hid hp
  have HP' := Lib.hid hp'
  have HE := Lib.hid (fun a b c W => eqRay_same a b c W)
  unfold maxLen at hm
  clear hp hp' h h'
  go_enter Try.func26, Try.ntmps26
  go_wp2
  go_loopw [5] (fun i wr => ∃ j : Nat, j ≤ n ∧ i = .int .i64 j ∧ Below w.heap.size w wr) (fun i _ => n - (intOf i).toNat)
  case atStart => exact ⟨0, by omega, rfl, Below.refl _ _⟩
  case round =>
    obtain ⟨j, hj, rfl, hb⟩ := hrel
    by_cases hlt : j < n
    · obtain ⟨g, rfl, a0⟩ := HP.out (j * 3) (by omega)
      obtain ⟨gg, hgg, a1⟩ := HP.out (j * 3 + 1) (by omega)
      cases hgg
      obtain ⟨gg, hgg, a2⟩ := HP.out (j * 3 + 2) (by omega)
      cases hgg
      obtain ⟨g', rfl, b0⟩ := HP'.out (j * 3) (by omega)
      obtain ⟨gg, hgg, b1⟩ := HP'.out (j * 3 + 1) (by omega)
      cases hgg
      obtain ⟨gg, hgg, b2⟩ := HP'.out (j * 3 + 2) (by omega)
      cases hgg
      have c0 := cell_grown (cell_lt ((hb.cell (cell_lt a0)).trans a0)) ((hb.cell (cell_lt a0)).trans a0)
      have c1 := cell_grown (cell_lt ((hb.cell (cell_lt a1)).trans a1)) ((hb.cell (cell_lt a1)).trans a1)
      have c2 := cell_grown (cell_lt ((hb.cell (cell_lt a2)).trans a2)) ((hb.cell (cell_lt a2)).trans a2)
      have d0 := cell_grown (cell_lt ((hb.cell (cell_lt b0)).trans b0)) ((hb.cell (cell_lt b0)).trans b0)
      have d1 := cell_grown (cell_lt ((hb.cell (cell_lt b1)).trans b1)) ((hb.cell (cell_lt b1)).trans b1)
      have d2 := cell_grown (cell_lt ((hb.cell (cell_lt b2)).trans b2)) ((hb.cell (cell_lt b2)).trans b2)
      clear a0 b0 a1 b1 a2 b2
      go_wp2_with fail
      refine wp_region_quiet_grown (by kernel_rfl) (by kernel_rfl) ?_
      repeat (go_big_quiet_step ((first | (go_at_call 64; refine Calls.grown_of (HE.out _ _ _ _)))))
      refine wpQuiet_nil ?_
      intro _ hw'
      obtain ⟨⟨nq, osq⟩, hw''⟩ := hw'
      subst hw''
      go_wp2
      go_roundw
      case rel => exact ⟨j + 1, by omega, by go_num, bel2 hb (grB _ _)⟩
      case measure => simp [intOf]; omega
    · go_wp2
      go_ret
      exact ⟨rfl, hb⟩
theorem marked_Ray (k : Int) (zs : List Int) (j : Nat) (hj : j * 3 + 2 < zs.length) : (((marked k zs (j * 3)).set (j * 3) (k + ((j * 3 : Nat) : Int))).set (j * 3 + 1) (k + ((j * 3 + 1 : Nat) : Int))).set (j * 3 + 2) (k + ((j * 3 + 2 : Nat) : Int)) = marked k zs ((j + 1) * 3) := by
  rw [marked_set k zs (j * 3) (by omega), marked_set k zs (j * 3 + 1) (by omega), marked_set k zs (j * 3 + 2) hj]
  congr 1
  omega
set_option maxHeartbeats 1000000 in
set_option maxRecDepth 100000 in
theorem markRayS_any (w : World) (B : Nat) (v : Value) (n : Nat) (zs : List Int) (k : Int) (h : FS 26 3 w B v n zs) (hk : 0 ≤ k ∧ k ≤ 1000000000) (hz : n ≤ 1048576) : Calls Try.prog 27 #[v, .int .i64 k] w fun e w' => MarksF 26 3 B v k n w e w' := by
  obtain ⟨hk0, hk1⟩ := hk
  have hlen := h.len
  rcases h.2 with ⟨rfl, h0⟩ | ⟨g, cap, cur, rfl, hBg, -, -⟩
  · subst h0
    have hnil : zs = [] := List.eq_nil_of_length_eq_zero (by omega)
    subst hnil
    go_enter Try.func27, Try.ntmps27
    go_wp2
    go_rounds 1
    go_ret
    exact ⟨ret_i64 (by simp), h, World.grownBy.refl _ _, rfl⟩
  · have H := Lib.hid h
    have HL := Lib.hid hlen
    clear h hlen
    go_enter Try.func27, Try.ntmps27
    go_wp2
    go_loopw [1, 5] (fun x i wr => ∃ j : Nat, j ≤ n ∧ i = .int .i64 j ∧ x = .int .i64 (k + ((j * 3 : Nat) : Int)) ∧ wr.ownsRow B 26 3 (.slice (some ⟨g, 0, none⟩) n cap) n (ints (marked k zs (j * 3))) ∧ w.grownBy wr (some g) ∧ wr.heap.size = w.heap.size) (fun _ i _ => n - (intOf i).toNat)
    case atStart => exact ⟨0, by omega, rfl, by simp, by have := H.out; unfold FS at this; simpa [marked] using this, World.grownBy.refl _ _, rfl⟩
    case round =>
      obtain ⟨j, hj, rfl, rfl, hrow, hg, hsz⟩ := hrel
      have HS := Lib.hid hsz
      clear hsz
      by_cases hlt : j < n
      · have hl := HL.out
        have hcell : ∀ m, m < n * 3 → wr.cell? ⟨g, m, none⟩ = some (.int .i64 (gd (marked k zs (j * 3)) m)) := fun m hm => by
          rw [World.ownsRow.cellAt hrow m hm, getD_ints _ m (by rw [marked_len k zs _ (by omega)]; omega)]
        have f0 := World.ownsRow.frozenAt hrow (j * 3)
        have f1 := World.ownsRow.frozenAt hrow (j * 3 + 1)
        have f2 := World.ownsRow.frozenAt hrow (j * 3 + 2)
        have c0 := hcell (j * 3) (by omega)
        have c1 := hcell (j * 3 + 1) (by omega)
        have c2 := hcell (j * 3 + 2) (by omega)
        have s0 := World.ownsRow.stored hrow (j * 3) (.int .i64 (k + ((j * 3 : Nat) : Int)))
        have s1 := World.ownsRow.stored s0.1 (j * 3 + 1) (.int .i64 (k + ((j * 3 + 1 : Nat) : Int)))
        have s2 := World.ownsRow.stored s1.1 (j * 3 + 2) (.int .i64 (k + ((j * 3 + 2 : Nat) : Int)))
        have hrow' := s2.1
        have hgg := Lib.grownBy_trans (Lib.grownBy_trans (Lib.grownBy_trans hg s0.2) s1.2) s2.2
        rw [show (((ints (marked k zs (j * 3))).set (j * 3) (.int .i64 (k + ((j * 3 : Nat) : Int)))).set (j * 3 + 1) (.int .i64 (k + ((j * 3 + 1 : Nat) : Int)))).set (j * 3 + 2) (.int .i64 (k + ((j * 3 + 2 : Nat) : Int))) = ints (marked k zs ((j + 1) * 3)) from by rw [← marked_Ray k zs j (by omega)]; unfold ints; simp only [List.map_set]] at hrow'
        have HF := Lib.hid (And.intro hrow' hgg)
        clear s0 s1 s2 hrow' hgg hcell hl
        obtain ⟨K, hK⟩ : ∃ K : Int, K = k + ((j * 3 : Nat) : Int) := ⟨_, rfl⟩
        have q1 : k + ((j * 3 + 1 : Nat) : Int) = K + 1 := by omega
        have q2 : k + ((j * 3 + 2 : Nat) : Int) = K + 1 + 1 := by omega
        rw [q1, q2, ← hK] at HF
        rw [← hK]
        have HK := Lib.hid hK
        have k0 : 0 ≤ K ∧ K ≤ 2000000000000 := by omega
        obtain ⟨k01, k02⟩ := k0
        clear q1 q2 hK hrow hg
        go_wp2
        go_roundw
        case rel => exact ⟨j + 1, by omega, by go_num, by rw [show (((j + 1) * 3 : Nat) : Int) = ((j * 3 : Nat) : Int) + 3 by omega]; have := HK.out; go_num, HF.out.1, HF.out.2, by simpa using HS.out⟩
        case measure => simp [intOf]; omega
      · go_wp2
        go_ret
        obtain rfl : j = n := by omega
        refine ⟨rfl, ?_, hg, HS.out⟩
        rw [marked_end k zs _ (by have := HL.out; omega), HL.out] at hrow
        exact hrow
theorem szRayS_any (w : World) (A : Option Addr) (cap n : Nat) (m : Int) (hn : n ≤ 9223372036854775807) (hm : 0 ≤ m ∧ m ≤ 1048576) : Calls Try.prog 21 #[.slice A n cap, .int .i64 m] w fun e w' => e = .returned (.int .i64 (if m - n < 0 then -1 else m - n)) ∧ w = w' := by
  have q : IntKind.i64.wrap (m - n) = m - n := IntWalk.i64_in _ (by omega)
  obtain ⟨x, hx⟩ : ∃ x, x = m - (n : Int) := ⟨_, rfl⟩
  rw [← hx] at q ⊢
  by_cases h : x < 0
  · go_enter Try.func21, Try.ntmps21
    have q' : IntKind.i64.wrap (m - n) = x := by rw [← hx]; exact q
    clear hx
    go_wp2
    go_ret
    exact ⟨ret_i64 (by first | rfl | rw [if_pos (by omega)]), rfl⟩
  · go_enter Try.func21, Try.ntmps21
    have q' : IntKind.i64.wrap (m - n) = x := by rw [← hx]; exact q
    clear hx
    go_wp2
    go_ret
    exact ⟨ret_i64 (by first | rfl | rw [if_neg (by omega)]), rfl⟩
theorem infoRayL : (Try.prog.info? 26).map (fun i => (i.zero, i.size, i.bytes)) = some (some (.agg #[.int .i64 0, .int .i64 0, .int .i64 0]), 3, 24) := by kernel_rfl
theorem toRay_load (w : World) (g : Nat) (a b c : Int) (T : TypeId) (hT : T = 26) (h0 : w.cell? ⟨g, 0, none⟩ = some (.int .i64 a)) (h1 : w.cell? ⟨g, 1, none⟩ = some (.int .i64 b)) (h2 : w.cell? ⟨g, 2, none⟩ = some (.int .i64 c)) : (loadVar T ⟨g, 0, none⟩).run Try.prog w = .ok (.agg #[.int .i64 a, .int .i64 b, .int .i64 c]) w := by
  subst hT
  simp [loadVar, go_sem, h0, h1, h2]
theorem toRay_result (w : World) (g : Nat) (a b c : Int) (h0 : w.cell? ⟨g, 0, none⟩ = some (.int .i64 a)) (h1 : w.cell? ⟨g, 1, none⟩ = some (.int .i64 b)) (h2 : w.cell? ⟨g, 2, none⟩ = some (.int .i64 c)) {fn : Func} {p : Tmp} {ts : Array Value} (hr : fn.results = #[.cell p 26]) (hp : ts.getD p undef = .pointer (some ⟨g, 0, none⟩)) : (Go.results fn ts).run Try.prog w = Result.ok (.agg #[.int .i64 a, .int .i64 b, .int .i64 c]) w := by
  have hp' : ts[p]?.getD undef = .pointer (some ⟨g, 0, none⟩) := by simpa using hp
  have ha : (asAddr (Value.pointer (some ⟨g, 0, none⟩))).run Try.prog w = .ok ⟨g, 0, none⟩ w := rfl
  simp only [Go.results, hr]
  simp [Sem.run_bind, Result.andThen, hp', ha, toRay_load w g a b c _ rfl h0 h1 h2]
set_option maxHeartbeats 400000 in
theorem toRay_any (a b c : Int) (w : World) : Calls Try.prog 15 #[.agg #[.int .i64 a, .int .i64 b, .int .i64 c]] w fun e w' => e = .returned (.agg #[.int .i64 a, .int .i64 b, .int .i64 c]) ∧ Gr w w' := by
  go_enter Try.func15, Try.ntmps15
  go_wp2
  refine bodyPost_ret (toRay_result _ (w.heap.size + 1) a b c ?_ ?_ ?_ rfl rfl) rfl ⟨rfl, gr3 _ _ _ _⟩
  all_goals simp [go_sem]
def GivesFRay (n : Nat) (zs : List Int) (w : World) (e : Ending) (w' : World) : Prop := ∃ r, e = .returned r ∧ FS 26 3 w' w.heap.size r n zs ∧ Below w.heap.size w w'
theorem part_Ray (zs : List Int) (j : Nat) (hj : j * 3 + 2 < zs.length) : (((part zs (j * 3)).set (j * 3) (gd zs (j * 3))).set (j * 3 + 1) (gd zs (j * 3 + 1))).set (j * 3 + 2) (gd zs (j * 3 + 2)) = part zs ((j + 1) * 3) := by
  rw [part_set zs (j * 3) (by omega), part_set zs (j * 3 + 1) (by omega), part_set zs (j * 3 + 2) hj]
  congr 1
  omega
set_option maxHeartbeats 1000000 in
set_option maxRecDepth 100000 in
theorem toRayS_any (w : World) (A : Option Addr) (cap n : Nat) (zs : List Int) (hn : zs.length = n * 3) (h : RD w A zs) (hm : n ≤ 1048576) : Calls Try.prog 23 #[.slice A n cap] w fun e w' => GivesFRay n zs w e w' := by
  obtain ⟨i0, hi, hz0, hz1, hz2⟩ := info_parts infoRayL
  have H := Lib.hid h
  have HT := Lib.hid (fun a b c W => toRay_any a b c W)
  clear h
  go_enter Try.func23, Try.ntmps23
  go_wp2_with (refine wpList_make_full _ rfl _ _ 38 rfl w.heap.size 26 i0 (.agg #[.int .i64 0, .int .i64 0, .int .i64 0]) 3 Try.underlying38 hi hz0 hz1 .i64 .i64 _ _ n rfl rfl rfl rfl (by rw [hz2]; omega) (by simp only [maxLen]; omega) (Nat.le_refl _) ?_; intro w1 hown hgrow)
  have hrow0 : w1.ownsRow w.heap.size 26 3 (.slice (some ⟨w.heap.size, 0, none⟩) n n) n (ints (part zs 0)) := by
    rw [show (madeCells (.agg #[.int .i64 0, .int .i64 0, .int .i64 0] : Value).cells (n * 3)).toList = ints (part zs 0) from by
      rw [show part zs 0 = List.replicate (n * 3) 0 by simp [part, hn]]
      exact made_ints 3 _ (by omega)] at hown
    exact hown
  have hb0 : Below w.heap.size w w1 := (Below.refl _ _).grown hgrow (Nat.le_refl _) (fun _ h => by cases h)
  have HN := Lib.hid hn
  clear hown hgrow hn
  go_loopw [4] (fun i wr => ∃ j : Nat, j ≤ n ∧ i = .int .i64 j ∧ wr.ownsRow w.heap.size 26 3 (.slice (some ⟨w.heap.size, 0, none⟩) n n) n (ints (part zs (j * 3))) ∧ Below w.heap.size w wr) (fun i _ => n - (intOf i).toNat)
  case atStart => exact ⟨0, by omega, rfl, by rw [Nat.zero_mul]; exact hrow0, hb0⟩
  case round =>
    obtain ⟨j, hj, rfl, hrow, hb⟩ := hrel
    clear hrow0 hb0
    by_cases hlt : j < n
    · have hl := HN.out
      obtain ⟨ad, rfl, had, r0⟩ := (RD.below H.out hb) (j * 3) (by omega)
      obtain ⟨ad', had', -, r1⟩ := (RD.below H.out hb) (j * 3 + 1) (by omega)
      cases had'
      obtain ⟨ad', had', -, r2⟩ := (RD.below H.out hb) (j * 3 + 2) (by omega)
      cases had'
      rw [← add_at ad (j * 3) 1 (by omega)] at r1
      rw [← add_at ad (j * 3) 2 (by omega)] at r2
      have f0 := World.ownsRow.frozenAt hrow (j * 3)
      have f1 := World.ownsRow.frozenAt hrow (j * 3 + 1)
      have f2 := World.ownsRow.frozenAt hrow (j * 3 + 2)
      have hcell : ∀ m, m < n * 3 → wr.cell? ⟨w.heap.size, m, none⟩ = some (.int .i64 (gd (part zs (j * 3)) m)) := fun m hm => by
        rw [World.ownsRow.cellAt hrow m hm, getD_ints _ m (by rw [part_len zs _ (by omega)]; omega)]
      have c0 := hcell (j * 3) (by omega)
      have c1 := hcell (j * 3 + 1) (by omega)
      have c2 := hcell (j * 3 + 2) (by omega)
      go_wp2_with fail
      refine (HT.out _ _ _ _).mono ?_
      rintro e w2 ⟨rfl, b2⟩
      have b2 := b2.below
      have hrow2 : w2.ownsRow w.heap.size 26 3 (.slice (some ⟨w.heap.size, 0, none⟩) n n) n (ints (part zs (j * 3))) := FS.below (zs := part zs (j * 3)) hrow b2
      have hb2 := bel2 hb b2
      have d0 := box_o c0 b2
      have d1 := box_o c1 b2
      have d2 := box_o c2 b2
      have g0 := (b2.frozen (p := ⟨w.heap.size, j * 3, none⟩) (cell_lt c0)).trans f0
      have g1 := (b2.frozen (p := ⟨w.heap.size, j * 3 + 1, none⟩) (cell_lt c1)).trans f1
      have g2 := (b2.frozen (p := ⟨w.heap.size, j * 3 + 2, none⟩) (cell_lt c2)).trans f2
      have s0 := World.ownsRow.stored hrow2 (j * 3) (.int .i64 (gd zs (j * 3)))
      have s1 := World.ownsRow.stored s0.1 (j * 3 + 1) (.int .i64 (gd zs (j * 3 + 1)))
      have s2 := World.ownsRow.stored s1.1 (j * 3 + 2) (.int .i64 (gd zs (j * 3 + 2)))
      have hrow3 := s2.1
      rw [show (((ints (part zs (j * 3))).set (j * 3) (.int .i64 (gd zs (j * 3)))).set (j * 3 + 1) (.int .i64 (gd zs (j * 3 + 1)))).set (j * 3 + 2) (.int .i64 (gd zs (j * 3 + 2))) = ints (part zs ((j + 1) * 3)) from by rw [← part_Ray zs j (by omega)]; unfold ints; simp only [List.map_set]] at hrow3
      have hb3 : Below w.heap.size w (((w2.setCell ⟨w.heap.size, j * 3, none⟩ (.int .i64 (gd zs (j * 3)))).setCell ⟨w.heap.size, j * 3 + 1, none⟩ (.int .i64 (gd zs (j * 3 + 1)))).setCell ⟨w.heap.size, j * 3 + 2, none⟩ (.int .i64 (gd zs (j * 3 + 2)))) := (((hb2.setCell (Nat.le_refl _) _).setCell (Nat.le_refl _) _).setCell (Nat.le_refl _) _)
      have HF := Lib.hid (And.intro hrow3 hb3)
      clear s0 s1 s2 hb3 hrow3 hrow hrow2 hl hcell c0 c1 c2 f0 f1 f2 r0 r1 r2 had
      go_wp2
      go_roundw
      case rel => exact ⟨j + 1, by omega, by go_num, HF.out.1, HF.out.2⟩
      case measure => simp [intOf]; omega
    · go_wp2
      go_ret
      have hl := HN.out
      refine ⟨_, rfl, ?_, hb⟩
      rw [part_end zs _ (by omega)] at hrow
      exact hrow
end Go.Proofs.Ytijmnbgmpakllaa
