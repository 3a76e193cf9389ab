/-
  Moved and exchanged plane polynomials in the program: what the calls return.
  Condition: the slice reads as the list that is named.
-/
import Derived.Test.YtibdbgeknphljaaPlChange
namespace Go.Proofs.Ytibdbgeknphljaa
set_option linter.unusedSimpArgs false
set_option linter.unusedVariables false
open Go.ChangeShapes Go.WideShapes Go.ChangeAt Go.RowKit
open Go.Sort (grow)

theorem swap1_any (t : Tm) (w : World) : Calls Try.prog 68 #[tmV t] w fun e w' => e = .returned (tmV (swT t)) ∧ Below w.heap.size w w' := by
  obtain ⟨a, b, c⟩ := t
  go_enter Try.func68, Try.ntmps68
  go_wp2
  refine bodyPost_ret (T3.result (t := (b, a, c)) (g := w.heap.size + 1) ?_ rfl rfl) rfl ⟨rfl, by go_grown⟩
  have := T3.new (w.alloc (.cells #[.int .i64 b, .int .i64 a, .int .i64 c] 54)) (b, a, c) 54
  rwa [World.size_alloc] at this
theorem ent_swap : ∀ (args : Array Value) (w : World), (callFunc 68 args).run Try.prog w = .ok (.enter 68 args) w := enters_of Try.func68 (by kernel_rfl) rfl
theorem swR_np {l : List Tm} (h : plB l = true) : true = plB (norm (l.map swT)) ∧ swR l = npR (l.map swT) := by
  have h1 := swap_ok h
  refine ⟨h1.symm, ?_⟩
  rw [swR_yes h]
  exact (npR_yes h1).symm
set_option maxRecDepth 100000 in
theorem implSwapPlane_any (w : World) (B : Nat) (v : Value) (l : List Tm) (h : TmS w B v l) : Calls Try.prog 37 #[v] w fun e w' => GivesTmB (plB l) (swR l) w e w' := by
  cases hl : plB l
  · have HL := Lib.hid hl
    clear hl
    go_enter Try.func37, Try.ntmps37
    go_wp2_with fail
    refine (isPlane_any _ B _ l h).mono ?_
    rintro e w1 ⟨rfl, b1⟩
    rw [HL.out]
    go_wp2
    go_ret2
    exact givesTmB_nil rfl (swR_no HL.out) b1
  · have HL := Lib.hid hl
    have hle := plB_le hl
    obtain ⟨n1, n2⟩ := swR_np hl
    have HN1 := Lib.hid n1
    have HN2 := Lib.hid n2
    clear hl n1 n2
    go_enter Try.func37, Try.ntmps37
    go_wp2_with fail
    refine (isPlane_any _ B _ l h).mono ?_
    rintro e w1 ⟨rfl, b1⟩
    have h1 := FS.below h b1
    rw [HL.out]
    go_wp2_with fail
    refine (changedPlane_any _ _ _ l h1 ⟨hle.1, by omega⟩ _ _ ent_swap swT (fun W k _ _ => by rw [Array.append_empty]; exact swap1_any _ W)).mono ?_
    rintro e w2 ⟨r, rfl, hr, b2⟩
    go_wp2
    go_ret2
    exact givesTmB_is HN1.out HN2.out (FS.base hr b1.size) (bel2 b1 b2)
set_option maxRecDepth 100000 in
theorem move1_any (t : Tm) (x y : Int) (p q : Nat) (w : World) (h : plT t = true) (hx : -1000000 ≤ x ∧ x ≤ 1000000) (hy : -1000000 ≤ y ∧ y ≤ 1000000) (cx : w.cell? ⟨p, 0, none⟩ = some (.int .i64 x)) (cy : w.cell? ⟨q, 0, none⟩ = some (.int .i64 y)) : Calls Try.prog 67 #[tmV t, .pointer (some ⟨p, 0, none⟩), .pointer (some ⟨q, 0, none⟩)] w fun e w' => e = .returned (tmV (mvT x y t)) ∧ Below w.heap.size w w' := by
  have HV := Lib.hid (fun W => valueOfTerm_any t x y W h hx hy)
  have HM := Lib.hid (show mvT x y t = (t.1, t.2.1, tv t x y) from rfl)
  rw [HM.out]
  obtain ⟨X, hX⟩ : ∃ X, X = tv t x y := ⟨_, rfl⟩
  rw [← hX] at HV ⊢
  have hp := cell_lt cx
  have hq := cell_lt cy
  obtain ⟨a, b, c⟩ := t
  have hB := (B3.new w (a, b, c) 54).old (.cells #[.int .i64 0, .int .i64 0, .int .i64 0] 54)
  have hR := B3.new (w.alloc (.cells #[.int .i64 a, .int .i64 b, .int .i64 c] 54)) (0, 0, 0) 54
  rw [World.size_alloc] at hR
  have hb0 : Below w.heap.size w ((w.alloc (.cells #[.int .i64 a, .int .i64 b, .int .i64 c] 54)).alloc (.cells #[.int .i64 0, .int .i64 0, .int .i64 0] 54)) := by go_grown
  clear hX h hx hy HM
  go_enter Try.func67, Try.ntmps67
  go_wp2_with fail
  refine (HV.out _).mono ?_
  rintro e w1 ⟨rfl, g1⟩
  have b1 := g1.below
  obtain ⟨⟨c0, c1, c2⟩, f0, f1, f2⟩ := hB.below b1
  have hR1 := hR.below b1
  have HR := Lib.hid hR1.1
  obtain ⟨⟨r0, r1, r2⟩, e0, e1, e2⟩ := hR1
  have B1 := Lib.hid (bel2 hb0 b1)
  clear hB hR hb0 b1 g1
  go_wp2
  refine bodyPost_ret (T3.result (t := (a, b, X)) (g := w.heap.size + 1) ?_ rfl rfl) rfl ⟨rfl, ?_⟩
  · obtain ⟨q0, q1, q2⟩ := HR.out
    exact T3.stores (s := (0, 0, 0)) ⟨(World.cell?_setCell_other _ _ _ _ (by simp)).trans q0, (World.cell?_setCell_other _ _ _ _ (by simp)).trans q1, (World.cell?_setCell_other _ _ _ _ (by simp)).trans q2⟩ (a, b, X)
  · exact (((B1.out.setCell (Nat.le_refl _) _).setCell (by simp) _).setCell (by simp) _).setCell (by simp) _
theorem ent_move : ∀ (args : Array Value) (w : World), (callFunc 67 args).run Try.prog w = .ok (.enter 67 args) w := enters_of Try.func67 (by kernel_rfl) rfl
set_option maxHeartbeats 1000000 in
set_option maxRecDepth 100000 in
theorem implMovePlane_any (w : World) (B : Nat) (v : Value) (l : List Tm) (x y : Int) (h : TmS w B v l) : Calls Try.prog 35 #[v, .int .i64 x, .int .i64 y] w fun e w' => GivesTmB (mvPB l x y) (mvPR l x y) w e w' := by
  have hb0 : Below w.heap.size w ((w.alloc (.cells #[.int .i64 x] 3)).alloc (.cells #[.int .i64 y] 3)) := by go_grown
  have h0 := FS.below h hb0
  have cx : ((w.alloc (.cells #[.int .i64 x] 3)).alloc (.cells #[.int .i64 y] 3)).cell? ⟨w.heap.size, 0, none⟩ = some (.int .i64 x) := by simp [go_sem]
  have cy : ((w.alloc (.cells #[.int .i64 x] 3)).alloc (.cells #[.int .i64 y] 3)).cell? ⟨w.heap.size + 1, 0, none⟩ = some (.int .i64 y) := by simp [go_sem]
  cases hl : plB l
  · obtain ⟨n1, n2⟩ := mv_no1 (x := x) (y := y) hl
    have HL := Lib.hid hl
    have HN1 := Lib.hid n1
    have HN2 := Lib.hid n2
    clear hl n1 n2
    go_enter Try.func35, Try.ntmps35
    go_wp2_with fail
    refine (isPlane_any _ B _ l h0).mono ?_
    rintro e w1 ⟨rfl, b1⟩
    have d0 := box_o cx b1
    have d1 := box_o cy b1
    rw [HL.out]
    go_wp2
    go_ret2
    exact givesTmB_nil HN1.out HN2.out (bel2 hb0 b1)
  · cases hx : finB x
    · obtain ⟨n1, n2⟩ := mv_no2 (l := l) (y := y) hx
      have HL := Lib.hid hl
      have HX := Lib.hid hx
      have HN1 := Lib.hid n1
      have HN2 := Lib.hid n2
      clear hl hx n1 n2
      go_enter Try.func35, Try.ntmps35
      go_wp2_with fail
      refine (isPlane_any _ B _ l h0).mono ?_
      rintro e w1 ⟨rfl, b1⟩
      have d0 := box_o cx b1
      have d1 := box_o cy b1
      rw [HL.out]
      go_wp2_with fail
      refine (isFin_any _ _).mono ?_
      rintro e w' ⟨rfl, rfl⟩
      rw [HX.out]
      go_wp2
      go_ret2
      exact givesTmB_nil HN1.out HN2.out (bel2 hb0 b1)
    · cases hy : finB y
      · obtain ⟨n1, n2⟩ := mv_no3 (l := l) (x := x) hy
        have HL := Lib.hid hl
        have HX := Lib.hid hx
        have HY := Lib.hid hy
        have HN1 := Lib.hid n1
        have HN2 := Lib.hid n2
        clear hl hx hy n1 n2
        go_enter Try.func35, Try.ntmps35
        go_wp2_with fail
        refine (isPlane_any _ B _ l h0).mono ?_
        rintro e w1 ⟨rfl, b1⟩
        have d0 := box_o cx b1
        have d1 := box_o cy b1
        rw [HL.out]
        go_wp2_with fail
        refine (isFin_any _ _).mono ?_
        rintro e w' ⟨rfl, rfl⟩
        rw [HX.out]
        go_wp2_with fail
        refine (isFin_any _ _).mono ?_
        rintro e w' ⟨rfl, rfl⟩
        rw [HY.out]
        go_wp2
        go_ret2
        exact givesTmB_nil HN1.out HN2.out (bel2 hb0 b1)
      · obtain ⟨n1, n2⟩ := mv_yes hl hx hy
        have HL := Lib.hid hl
        have HX := Lib.hid hx
        have HY := Lib.hid hy
        have HN1 := Lib.hid n1
        have HN2 := Lib.hid n2
        have hle := plB_le hl
        clear hl hx hy n1 n2
        go_enter Try.func35, Try.ntmps35
        go_wp2_with fail
        refine (isPlane_any _ B _ l h0).mono ?_
        rintro e w1 ⟨rfl, b1⟩
        have d0 := box_o cx b1
        have d1 := box_o cy b1
        have h1 := FS.below h0 b1
        rw [HL.out]
        go_wp2_with fail
        refine (isFin_any _ _).mono ?_
        rintro e w' ⟨rfl, rfl⟩
        rw [HX.out]
        go_wp2_with fail
        refine (isFin_any _ _).mono ?_
        rintro e w' ⟨rfl, rfl⟩
        rw [HY.out]
        have B1 := bel2 hb0 b1
        have hF : FnTm 67 #[.pointer (some ⟨w.heap.size, 0, none⟩), .pointer (some ⟨w.heap.size + 1, 0, none⟩)] l (mvT x y) w1 := fun W k hk hW => by
          have h2 := move1_any (td l k) x y w.heap.size (w.heap.size + 1) W (plB_at HL.out hk) ((finB_iff _).1 HX.out) ((finB_iff _).1 HY.out) (box_o d0 hW) (box_o d1 hW)
          rw [show (#[tmV (td l k)] ++ #[Value.pointer (some ⟨w.heap.size, 0, none⟩), Value.pointer (some ⟨w.heap.size + 1, 0, none⟩)] : Array Value) = #[tmV (td l k), Value.pointer (some ⟨w.heap.size, 0, none⟩), Value.pointer (some ⟨w.heap.size + 1, 0, none⟩)] from by simp]
          exact h2
        have HF := Lib.hid hF
        clear hF d0 d1 cx cy h0
        go_wp2_with fail
        refine (changedPlane_any _ _ _ l h1 ⟨hle.1, by omega⟩ _ _ ent_move (mvT x y) HF.out).mono ?_
        rintro e w2 ⟨r, rfl, hr, b2⟩
        go_wp2
        go_ret2
        exact givesTmB_is HN1.out HN2.out (FS.base hr B1.size) (bel2 B1 b2)
end Go.Proofs.Ytibdbgeknphljaa
