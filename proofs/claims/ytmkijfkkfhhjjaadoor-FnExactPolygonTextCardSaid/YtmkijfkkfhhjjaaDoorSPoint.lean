/-
  Slices of the struct Point in the laws: compared, marked, read again, copied.
  Conditions: the slices are not too long, and read as the cells that are named.
-/
import Derived.Test.YtmkijfkkfhhjjaaDoorGr
namespace Go.Proofs.YtmkijfkkfhhjjaaDoor
set_option linter.unusedSimpArgs false
set_option linter.unusedVariables false
open Go.ChangeShapes Go.WideShapes Go.ChangeAt Go.RowKit
open Go.Sort (grow)

theorem eqPoint_same (a b : Int) (w : World) : Calls Tryd.prog 27 #[.agg #[.int .i64 a, .int .i64 b], .agg #[.int .i64 a, .int .i64 b]] w fun e w' => e = .returned (.bool true) ∧ Gr w w' := by
  go_enter Tryd.func27, Tryd.ntmps27
  go_wp2
  go_ret
  exact ⟨rfl, gr2 _ _ _⟩
set_option maxHeartbeats 1000000 in
set_option maxRecDepth 100000 in
theorem eqPointS_same (w : World) (B B' : Nat) (v v' : Value) (n : Nat) (zs : List Int) (h : FS 45 2 w B v n zs) (h' : FS 45 2 w B' v' n zs) : Calls Tryd.prog 14 #[v, v'] w fun e w' => e = .returned (.bool true) ∧ Below w.heap.size w w' := by
  obtain ⟨A, cap, rfl, hm, hp⟩ := FS.parts h
  obtain ⟨A', cap', rfl, -, hp'⟩ := FS.parts h'
  have HP := Lib.hid hp
  have HP' := Lib.hid hp'
  have HE := Lib.hid (fun a b W => eqPoint_same a b W)
  unfold maxLen at hm
  clear hp hp' h h'
  go_enter Tryd.func14, Tryd.ntmps14
  go_wp2
  go_loopw [5] (fun i wr => ∃ j : Nat, j ≤ n ∧ i = .int .i64 j ∧ Below w.heap.size w wr) (fun i _ => n - (intOf i).toNat)
  case atStart => exact ⟨0, by omega, rfl, Below.refl _ _⟩
  case round =>
    obtain ⟨j, hj, rfl, hb⟩ := hrel
    by_cases hlt : j < n
    · obtain ⟨g, rfl, a0⟩ := HP.out (j * 2) (by omega)
      obtain ⟨gg, hgg, a1⟩ := HP.out (j * 2 + 1) (by omega)
      cases hgg
      obtain ⟨g', rfl, b0⟩ := HP'.out (j * 2) (by omega)
      obtain ⟨gg, hgg, b1⟩ := HP'.out (j * 2 + 1) (by omega)
      cases hgg
      have c0 := cell_grown (cell_lt ((hb.cell (cell_lt a0)).trans a0)) ((hb.cell (cell_lt a0)).trans a0)
      have c1 := cell_grown (cell_lt ((hb.cell (cell_lt a1)).trans a1)) ((hb.cell (cell_lt a1)).trans a1)
      have d0 := cell_grown (cell_lt ((hb.cell (cell_lt b0)).trans b0)) ((hb.cell (cell_lt b0)).trans b0)
      have d1 := cell_grown (cell_lt ((hb.cell (cell_lt b1)).trans b1)) ((hb.cell (cell_lt b1)).trans b1)
      clear a0 b0 a1 b1
      go_wp2_with fail
      refine wp_region_quiet_grown (by kernel_rfl) (by kernel_rfl) ?_
      repeat (go_big_quiet_step ((first | (go_at_call 27; refine Calls.grown_of (HE.out _ _ _)))))
      refine wpQuiet_nil ?_
      intro _ hw'
      obtain ⟨⟨nq, osq⟩, hw''⟩ := hw'
      subst hw''
      go_wp2
      go_roundw
      case rel => exact ⟨j + 1, by omega, by go_num, bel2 hb (grB _ _)⟩
      case measure => simp [intOf]; omega
    · go_wp2
      go_ret
      exact ⟨rfl, hb⟩
theorem szPointS_any (w : World) (A : Option Addr) (cap n : Nat) (m : Int) (hn : n ≤ 9223372036854775807) (hm : 0 ≤ m ∧ m ≤ 1048576) : Calls Tryd.prog 10 #[.slice A n cap, .int .i64 m] w fun e w' => e = .returned (.int .i64 (if m - n < 0 then -1 else m - n)) ∧ w = w' := by
  have q : IntKind.i64.wrap (m - n) = m - n := IntWalk.i64_in _ (by omega)
  obtain ⟨x, hx⟩ : ∃ x, x = m - (n : Int) := ⟨_, rfl⟩
  rw [← hx] at q ⊢
  by_cases h : x < 0
  · go_enter Tryd.func10, Tryd.ntmps10
    have q' : IntKind.i64.wrap (m - n) = x := by rw [← hx]; exact q
    clear hx
    go_wp2
    go_ret
    exact ⟨ret_i64 (by first | rfl | rw [if_pos (by omega)]), rfl⟩
  · go_enter Tryd.func10, Tryd.ntmps10
    have q' : IntKind.i64.wrap (m - n) = x := by rw [← hx]; exact q
    clear hx
    go_wp2
    go_ret
    exact ⟨ret_i64 (by first | rfl | rw [if_neg (by omega)]), rfl⟩
theorem infoPointL : (Tryd.prog.info? 45).map (fun i => (i.zero, i.size, i.bytes)) = some (some (.agg #[.int .i64 0, .int .i64 0]), 2, 16) := by kernel_rfl
theorem toPoint_load (w : World) (g : Nat) (a b : Int) (T : TypeId) (hT : T = 45) (h0 : w.cell? ⟨g, 0, none⟩ = some (.int .i64 a)) (h1 : w.cell? ⟨g, 1, none⟩ = some (.int .i64 b)) : (loadVar T ⟨g, 0, none⟩).run Tryd.prog w = .ok (.agg #[.int .i64 a, .int .i64 b]) w := by
  subst hT
  simp [loadVar, go_sem, h0, h1]
theorem toPoint_result (w : World) (g : Nat) (a b : Int) (h0 : w.cell? ⟨g, 0, none⟩ = some (.int .i64 a)) (h1 : w.cell? ⟨g, 1, none⟩ = some (.int .i64 b)) {fn : Func} {p : Tmp} {ts : Array Value} (hr : fn.results = #[.cell p 45]) (hp : ts.getD p undef = .pointer (some ⟨g, 0, none⟩)) : (Go.results fn ts).run Tryd.prog w = Result.ok (.agg #[.int .i64 a, .int .i64 b]) w := by
  have hp' : ts[p]?.getD undef = .pointer (some ⟨g, 0, none⟩) := by simpa using hp
  have ha : (asAddr (Value.pointer (some ⟨g, 0, none⟩))).run Tryd.prog w = .ok ⟨g, 0, none⟩ w := rfl
  simp only [Go.results, hr]
  simp [Sem.run_bind, Result.andThen, hp', ha, toPoint_load w g a b _ rfl h0 h1]
set_option maxHeartbeats 400000 in
theorem toPoint_any (a b : Int) (w : World) : Calls Tryd.prog 22 #[.agg #[.int .i64 a, .int .i64 b]] w fun e w' => e = .returned (.agg #[.int .i64 a, .int .i64 b]) ∧ Gr w w' := by
  go_enter Tryd.func22, Tryd.ntmps22
  go_wp2
  refine bodyPost_ret (toPoint_result _ (w.heap.size + 1) a b ?_ ?_ rfl rfl) rfl ⟨rfl, gr3 _ _ _ _⟩
  all_goals simp [go_sem]
def GivesFPoint (n : Nat) (zs : List Int) (w : World) (e : Ending) (w' : World) : Prop := ∃ r, e = .returned r ∧ FS 45 2 w' w.heap.size r n zs ∧ Below w.heap.size w w'
theorem part_Point (zs : List Int) (j : Nat) (hj : j * 2 + 1 < zs.length) : ((part zs (j * 2)).set (j * 2) (gd zs (j * 2))).set (j * 2 + 1) (gd zs (j * 2 + 1)) = part zs ((j + 1) * 2) := by
  rw [part_set zs (j * 2) (by omega), part_set zs (j * 2 + 1) hj]
  congr 1
  omega
set_option maxHeartbeats 1000000 in
set_option maxRecDepth 100000 in
theorem toPointS_any (w : World) (A : Option Addr) (cap n : Nat) (zs : List Int) (hn : zs.length = n * 2) (h : RD w A zs) (hm : n ≤ 1048576) : Calls Tryd.prog 12 #[.slice A n cap] w fun e w' => GivesFPoint n zs w e w' := by
  obtain ⟨i0, hi, hz0, hz1, hz2⟩ := info_parts infoPointL
  have H := Lib.hid h
  have HT := Lib.hid (fun a b W => toPoint_any a b W)
  clear h
  go_enter Tryd.func12, Tryd.ntmps12
  go_wp2_with (refine wpList_make_full _ rfl _ _ 32 rfl w.heap.size 45 i0 (.agg #[.int .i64 0, .int .i64 0]) 2 Tryd.underlying32 hi hz0 hz1 .i64 .i64 _ _ n rfl rfl rfl rfl (by rw [hz2]; omega) (by simp only [maxLen]; omega) (Nat.le_refl _) ?_; intro w1 hown hgrow)
  have hrow0 : w1.ownsRow w.heap.size 45 2 (.slice (some ⟨w.heap.size, 0, none⟩) n n) n (ints (part zs 0)) := by
    rw [show (madeCells (.agg #[.int .i64 0, .int .i64 0] : Value).cells (n * 2)).toList = ints (part zs 0) from by
      rw [show part zs 0 = List.replicate (n * 2) 0 by simp [part, hn]]
      exact made_ints 2 _ (by omega)] at hown
    exact hown
  have hb0 : Below w.heap.size w w1 := (Below.refl _ _).grown hgrow (Nat.le_refl _) (fun _ h => by cases h)
  have HN := Lib.hid hn
  clear hown hgrow hn
  go_loopw [4] (fun i wr => ∃ j : Nat, j ≤ n ∧ i = .int .i64 j ∧ wr.ownsRow w.heap.size 45 2 (.slice (some ⟨w.heap.size, 0, none⟩) n n) n (ints (part zs (j * 2))) ∧ Below w.heap.size w wr) (fun i _ => n - (intOf i).toNat)
  case atStart => exact ⟨0, by omega, rfl, by rw [Nat.zero_mul]; exact hrow0, hb0⟩
  case round =>
    obtain ⟨j, hj, rfl, hrow, hb⟩ := hrel
    clear hrow0 hb0
    by_cases hlt : j < n
    · have hl := HN.out
      obtain ⟨ad, rfl, had, r0⟩ := (RD.below H.out hb) (j * 2) (by omega)
      obtain ⟨ad', had', -, r1⟩ := (RD.below H.out hb) (j * 2 + 1) (by omega)
      cases had'
      rw [← add_at ad (j * 2) 1 (by omega)] at r1
      have f0 := World.ownsRow.frozenAt hrow (j * 2)
      have f1 := World.ownsRow.frozenAt hrow (j * 2 + 1)
      have hcell : ∀ m, m < n * 2 → wr.cell? ⟨w.heap.size, m, none⟩ = some (.int .i64 (gd (part zs (j * 2)) m)) := fun m hm => by
        rw [World.ownsRow.cellAt hrow m hm, getD_ints _ m (by rw [part_len zs _ (by omega)]; omega)]
      have c0 := hcell (j * 2) (by omega)
      have c1 := hcell (j * 2 + 1) (by omega)
      go_wp2_with fail
      refine (HT.out _ _ _).mono ?_
      rintro e w2 ⟨rfl, b2⟩
      have b2 := b2.below
      have hrow2 : w2.ownsRow w.heap.size 45 2 (.slice (some ⟨w.heap.size, 0, none⟩) n n) n (ints (part zs (j * 2))) := FS.below (zs := part zs (j * 2)) hrow b2
      have hb2 := bel2 hb b2
      have d0 := box_o c0 b2
      have d1 := box_o c1 b2
      have g0 := (b2.frozen (p := ⟨w.heap.size, j * 2, none⟩) (cell_lt c0)).trans f0
      have g1 := (b2.frozen (p := ⟨w.heap.size, j * 2 + 1, none⟩) (cell_lt c1)).trans f1
      have s0 := World.ownsRow.stored hrow2 (j * 2) (.int .i64 (gd zs (j * 2)))
      have s1 := World.ownsRow.stored s0.1 (j * 2 + 1) (.int .i64 (gd zs (j * 2 + 1)))
      have hrow3 := s1.1
      rw [show ((ints (part zs (j * 2))).set (j * 2) (.int .i64 (gd zs (j * 2)))).set (j * 2 + 1) (.int .i64 (gd zs (j * 2 + 1))) = ints (part zs ((j + 1) * 2)) from by rw [← part_Point zs j (by omega)]; unfold ints; simp only [List.map_set]] at hrow3
      have hb3 : Below w.heap.size w ((w2.setCell ⟨w.heap.size, j * 2, none⟩ (.int .i64 (gd zs (j * 2)))).setCell ⟨w.heap.size, j * 2 + 1, none⟩ (.int .i64 (gd zs (j * 2 + 1)))) := ((hb2.setCell (Nat.le_refl _) _).setCell (Nat.le_refl _) _)
      have HF := Lib.hid (And.intro hrow3 hb3)
      clear s0 s1 hb3 hrow3 hrow hrow2 hl hcell c0 c1 f0 f1 r0 r1 had
      go_wp2
      go_roundw
      case rel => exact ⟨j + 1, by omega, by go_num, HF.out.1, HF.out.2⟩
      case measure => simp [intOf]; omega
    · go_wp2
      go_ret
      have hl := HN.out
      refine ⟨_, rfl, ?_, hb⟩
      rw [part_end zs _ (by omega)] at hrow
      exact hrow
end Go.Proofs.YtmkijfkkfhhjjaaDoor
