/-
  The model's draws of chapter 10: lines, coordinates, points and lists of lines: what each call returns.
  Condition: the bytes can be read; they are at most 1048576.
-/
import Derived.Test.YtakamboflfkchaaGreatDoorDraw
import Derived.Test.YtakamboflfkchaaGreatDoorLnD
import Derived.Deep.RegionHeld3
namespace Go.Proofs.YtakamboflfkchaaGreatDoor
set_option linter.unusedSimpArgs false
set_option linter.unusedVariables false
open Go.ChangeShapes Go.WideShapes Go.ChangeAt Go.RowKit
open Go.Sort (grow)

theorem B3.away {w w' : World} {g c : Nat} {t : Tm} (h : B3 w g t) (hg : w.grownBy w' (some c)) (hne : g ≠ c) : B3 w' g t := by
  have hb : w'.heap[g]? = w.heap[g]? := hg.block g (cell_lt h.1.1) (fun he => hne (by injection he))
  obtain ⟨⟨h1, h2, h3⟩, h4, h5, h6⟩ := h
  unfold World.cell? at h1 h2 h3
  unfold World.frozen? at h4 h5 h6
  refine ⟨⟨?_, ?_, ?_⟩, ?_, ?_, ?_⟩
  all_goals
    first | unfold World.cell? | unfold World.frozen?
    simp only [hb]
    assumption
theorem heap_farL (w : World) (g i k : Nat) (v : Value) (h : k ≠ g) : (w.setCell ⟨g, i, none⟩ v).heap[k]? = w.heap[k]? := Below.heap_setCell _ _ _ _ h
theorem B3.other {w : World} {g g' i : Nat} {t : Tm} {v : Value} (h : B3 w g t) (hne : g ≠ g') : B3 (w.setCell ⟨g', i, none⟩ v) g t := by
  have hb : (w.setCell ⟨g', i, none⟩ v).heap[g]? = w.heap[g]? := heap_farL w g' i g v hne
  obtain ⟨⟨h1, h2, h3⟩, h4, h5, h6⟩ := h
  unfold World.cell? at h1 h2 h3
  unfold World.frozen? at h4 h5 h6
  refine ⟨⟨?_, ?_, ?_⟩, ?_, ?_, ?_⟩
  all_goals
    first | unfold World.cell? | unfold World.frozen?
    simp only [hb]
    assumption
theorem B3.put0 {w : World} {g : Nat} {t : Tm} (h : B3 w g t) (u : Int) : B3 (w.setCell ⟨g, 0, none⟩ (.int .i64 u)) g (u, t.2.1, t.2.2) := by
  obtain ⟨⟨h1, h2, h3⟩, h4, h5, h6⟩ := h
  refine ⟨⟨World.cell?_setCell_same w _ _ h1, (World.cell?_setCell_other _ _ _ _ (by simp)).trans h2, (World.cell?_setCell_other _ _ _ _ (by simp)).trans h3⟩, ?_, ?_, ?_⟩
  all_goals (rw [World.frozen?_setCell]; assumption)
theorem B3.put1 {w : World} {g : Nat} {t : Tm} (h : B3 w g t) (u : Int) : B3 (w.setCell ⟨g, 1, none⟩ (.int .i64 u)) g (t.1, u, t.2.2) := by
  obtain ⟨⟨h1, h2, h3⟩, h4, h5, h6⟩ := h
  refine ⟨⟨(World.cell?_setCell_other _ _ _ _ (by simp)).trans h1, World.cell?_setCell_same w _ _ h2, (World.cell?_setCell_other _ _ _ _ (by simp)).trans h3⟩, ?_, ?_, ?_⟩
  all_goals (rw [World.frozen?_setCell]; assumption)
theorem B3.put2 {w : World} {g : Nat} {t : Tm} (h : B3 w g t) (u : Int) : B3 (w.setCell ⟨g, 2, none⟩ (.int .i64 u)) g (t.1, t.2.1, u) := by
  obtain ⟨⟨h1, h2, h3⟩, h4, h5, h6⟩ := h
  refine ⟨⟨(World.cell?_setCell_other _ _ _ _ (by simp)).trans h1, (World.cell?_setCell_other _ _ _ _ (by simp)).trans h2, World.cell?_setCell_same w _ _ h3⟩, ?_, ?_, ?_⟩
  all_goals (rw [World.frozen?_setCell]; assumption)
theorem B3.put3 {w : World} {g : Nat} {s : Tm} (h : B3 w g s) (t : Tm) : B3 (((w.setCell ⟨g, 0, none⟩ (.int .i64 t.1)).setCell ⟨g, 1, none⟩ (.int .i64 t.2.1)).setCell ⟨g, 2, none⟩ (.int .i64 t.2.2)) g t := by
  have := ((h.put0 t.1).put1 t.2.1).put2 t.2.2
  exact this
theorem grown_setL {a w : World} {row : Option Nat} {g i : Nat} {v : Value} (h : a.grownBy w row) (hg : a.heap.size ≤ g) : a.grownBy (w.setCell ⟨g, i, none⟩ v) row :=
  ⟨h.os, h.tape, h.output, by simpa [World.setCell] using h.size, fun k hk hne => (heap_farL w g i k v (by omega)).trans (h.block k hk hne)⟩
theorem grown_set3L {a w : World} {row : Option Nat} {g : Nat} {u v x : Value} (h : a.grownBy w row) (hg : a.heap.size ≤ g) : a.grownBy (((w.setCell ⟨g, 0, none⟩ u).setCell ⟨g, 1, none⟩ v).setCell ⟨g, 2, none⟩ x) row :=
  grown_setL (grown_setL (grown_setL h hg) hg) hg
theorem Cur.sameL {w w' : World} {b k : Nat} (h : Cur w b k) (hs : ∀ i, i ≤ b → w'.heap[i]? = w.heap[i]?) : Cur w' b k := by
  obtain ⟨A, n, cap, at_, seed, h1, h2, h3, h4, h5⟩ := h
  refine ⟨A, n, cap, at_, seed, (hs b (Nat.le_refl _)).trans h1, h2, h3, h4, fun j hj => ?_⟩
  obtain ⟨ad, c, g1, g2, g3, g4⟩ := h5 j hj
  refine ⟨ad, c, g1, g2, ?_, g4⟩
  have hb : (ad.add j).block = ad.block := by unfold Addr.add; split <;> rfl
  rw [← g3]
  unfold World.cell?
  rw [hs _ (by omega)]
theorem Cur.setL {w : World} {b k g i : Nat} {u : Value} (h : Cur w b k) (hg : b < g) : Cur (w.setCell ⟨g, i, none⟩ u) b k :=
  h.sameL fun j hj => heap_farL w g i j u (by omega)
theorem Cur.set3L {w : World} {b k g : Nat} {u v x : Value} (h : Cur w b k) (hg : b < g) : Cur (((w.setCell ⟨g, 0, none⟩ u).setCell ⟨g, 1, none⟩ v).setCell ⟨g, 2, none⟩ x) b k :=
  ((h.setL hg).setL hg).setL hg
/-- A line is drawn. -/
def TakesT (P : Tm → Prop) (b k : Nat) (w : World) (e : Ending) (w' : World) : Prop := ∃ t, e = .returned (tmV t) ∧ P t ∧ Cur w' b k ∧ w.grownBy w' (some b)
def smallT (t : Tm) : Prop := (-4 ≤ t.1 ∧ t.1 ≤ 9) ∧ (-4 ≤ t.2.1 ∧ t.2.1 ≤ 9) ∧ (-4 ≤ t.2.2 ∧ t.2.2 ≤ 9)
theorem smallT_wf {t : Tm} (h : smallT t) : wfT t := by
  unfold smallT at h
  exact ⟨IntWalk.i64_in _ (by omega), IntWalk.i64_in _ (by omega)⟩
/-- An integer of Go's. -/
def i64W (r : Int) : Prop := -9223372036854775808 ≤ r ∧ r ≤ 9223372036854775807
theorem i64W_wrap {r : Int} (h : i64W r) : IntKind.i64.wrap r = r := IntWalk.i64_in _ (by unfold i64W at h; omega)
theorem smallL_any (w : World) (b k : Nat) (h : Cur w b k) (hk : k ≤ 800000000) : Calls Tryz.prog 59 #[.pointer (some ⟨b, 0, none⟩)] w fun e w' => Takes (fun r => -4 ≤ r ∧ r ≤ 9) b (k + 2) w e w' := by
  go_enter Tryz.func59, Tryz.ntmps59
  go_wp2_with fail
  refine (pick_any 13 (by omega) _ b k h (by omega)).mono ?_
  rintro e v1 ⟨r, rfl, hr, hc, hg⟩
  obtain ⟨q1, q2⟩ := hr
  have q3 : r ≤ 13 := by omega
  have q4 : IntKind.i64.wrap (r - 4) = r - 4 := IntWalk.i64_in _ (by omega)
  have HQ := Lib.hid q2
  clear q2
  go_wp2
  go_ret
  exact ⟨_, rfl, by have := HQ.out; omega, hc, hg⟩
set_option maxHeartbeats 400000 in
theorem anyNumW_any (w : World) (b k : Nat) (h : Cur w b k) (hk : k ≤ 700000000) : Calls Tryz.prog 45 #[.pointer (some ⟨b, 0, none⟩)] w fun e w' => Takes i64W b (k + 6) w e w' := by
  go_enter Tryz.func45, Tryz.ntmps45
  go_wp2_with fail
  refine (one_any 12 (by omega) _ b k h (by omega)).mono ?_
  rintro e v1 ⟨r, rfl, hc, hg⟩
  cases r
  · go_wp2_with fail
    refine (num_any _ b (k + 2) hc (by omega)).mono ?_
    rintro e v2 ⟨r', rfl, hn, hc', hg'⟩
    have HN := Lib.hid (show i64W r' by have := numB_bd hn; unfold i64W; omega)
    clear hn
    go_wp2
    go_ret
    exact ⟨_, rfl, HN.out, hc', grown_trans hg hg'⟩
  · have hl := hc.lt
    go_wp2_with fail
    refine (among_any _ b (k + 2) v1.heap.size _ [1000001, -1000001, 1000000001, 999999999, -9223372036854775808, 9223372036854775807] (IS.litC v1 [1000001, -1000001, 1000000001, 999999999, -9223372036854775808, 9223372036854775807] (by simp)) (lit_away hl) (by simp) (hc.alloc _) (by omega)).mono ?_
    rintro e v2 ⟨r', rfl, hn, hc', hg'⟩
    have HN := Lib.hid (show i64W r' by simp at hn; unfold i64W; omega)
    clear hn
    go_wp2
    go_ret
    exact ⟨_, rfl, HN.out, hc'.more (by omega), grown_trans (grown_alloc hg _) hg'⟩
set_option maxHeartbeats 1000000 in
theorem line_any (w : World) (b k : Nat) (h : Cur w b k) (hk : k ≤ 700000000) : Calls Tryz.prog 40 #[.pointer (some ⟨b, 0, none⟩)] w fun e w' => TakesT smallT b (k + 6) w e w' := by
  have hl := h.lt
  have R0 := B3.new w (0, 0, 0) 24
  go_enter Tryz.func40, Tryz.ntmps40
  go_wp2_with fail
  refine (smallL_any _ b k (h.alloc _) (by omega)).mono ?_
  rintro e v1 ⟨x, rfl, hx, hc1, hg1⟩
  have HX := Lib.hid hx
  have R1 := R0.away hg1 (by omega)
  clear hx
  go_wp2_with fail
  refine (smallL_any _ b _ hc1 (by omega)).mono ?_
  rintro e v2 ⟨y, rfl, hy, hc2, hg2⟩
  have HY := Lib.hid hy
  have R2 := R1.away hg2 (by omega)
  clear hy
  go_wp2_with fail
  refine (smallL_any _ b _ hc2 (by omega)).mono ?_
  rintro e v3 ⟨z, rfl, hz, hc3, hg3⟩
  have HZ := Lib.hid hz
  have R3 := R2.away hg3 (by omega)
  have HR := Lib.hid R3
  have HG := Lib.hid (grown_trans (grown_alloc (World.grownBy.refl w (some b)) _) (grown_trans hg1 (grown_trans hg2 hg3)))
  obtain ⟨⟨c0, c1, c2⟩, f0, f1, f2⟩ := R3
  have hlr := cell_lt c0
  clear hz R1 R2 R0 hg1 hg2 hg3 hc1 hc2
  go_wp2
  refine bodyPost_ret (T3.resultL (t := (x, y, z)) (g := w.heap.size) (T3.stores (s := (0, 0, 0)) HR.out.1 (x, y, z)) rfl rfl) rfl ?_
  exact ⟨(x, y, z), rfl, ⟨HX.out, HY.out, HZ.out⟩, hc3.set3L hl, grown_set3L HG.out (Nat.le_refl _)⟩
set_option maxHeartbeats 2000000 in
theorem coord_any (w : World) (b k : Nat) (h : Cur w b k) (hk : k ≤ 700000000) : Calls Tryz.prog 37 #[.pointer (some ⟨b, 0, none⟩)] w fun e w' => Takes i64W b (k + 16) w e w' := by
  go_enter Tryz.func37, Tryz.ntmps37
  go_wp2_with fail
  refine (smallL_any _ b _ h (by omega)).mono ?_
  rintro e v0 ⟨x0, rfl, hx0, c0, g0⟩
  have HX0 := Lib.hid hx0
  clear hx0
  go_wp2_with fail
  refine (smallL_any _ b _ c0 (by omega)).mono ?_
  rintro e v1 ⟨x1, rfl, hx1, c1, g1⟩
  have HX1 := Lib.hid hx1
  clear hx1
  go_wp2_with fail
  refine (smallL_any _ b _ c1 (by omega)).mono ?_
  rintro e v2 ⟨x2, rfl, hx2, c2, g2⟩
  have HX2 := Lib.hid hx2
  clear hx2
  go_wp2_with fail
  refine (smallL_any _ b _ c2 (by omega)).mono ?_
  rintro e v3 ⟨x3, rfl, hx3, c3, g3⟩
  have HX3 := Lib.hid hx3
  clear hx3
  go_wp2_with fail
  refine (smallL_any _ b _ c3 (by omega)).mono ?_
  rintro e v4 ⟨x4, rfl, hx4, c4, g4⟩
  have HX4 := Lib.hid hx4
  clear hx4
  go_wp2_with fail
  refine (smallL_any _ b _ c4 (by omega)).mono ?_
  rintro e v5 ⟨x5, rfl, hx5, c5, g5⟩
  have HX5 := Lib.hid hx5
  clear hx5
  have hl := c5.lt
  have G5 := grown_trans (grown_trans (grown_trans (grown_trans (grown_trans g0 g1) g2) g3) g4) g5
  clear g0 g1 g2 g3 g4 g5 c0 c1 c2 c3 c4 h
  go_wp2_with fail
  refine (among_any _ b _ v5.heap.size _ [0, 1000000, -1000000, 1000000000, -9223372036854775808, x5] (IS.litC v5 [0, 1000000, -1000000, 1000000000, -9223372036854775808, x5] (by simp)) (lit_away hl) (by simp) (c5.alloc _) (by omega)).mono ?_
  rintro e v6 ⟨q, rfl, hq, c6, g6⟩
  have HQ := Lib.hid (show i64W q by have := HX5.out; simp at hq; unfold i64W; omega)
  have hl6 := c6.lt
  clear hq c5
  go_wp2_with fail
  refine (among_any _ b _ v6.heap.size _ [x0, x1, x2, x3, x4, q] (IS.litC v6 [x0, x1, x2, x3, x4, q] (by simp)) (lit_away hl6) (by simp) (c6.alloc _) (by omega)).mono ?_
  rintro e v7 ⟨r, rfl, hr, c7, g7⟩
  have HR := Lib.hid (show i64W r by
    have h0 := HX0.out
    have h1 := HX1.out
    have h2 := HX2.out
    have h3 := HX3.out
    have h4 := HX4.out
    have h5 := HQ.out
    unfold i64W at h5 ⊢
    simp at hr
    omega)
  clear hr
  go_wp2
  go_ret
  exact ⟨_, rfl, HR.out, c7, grown_trans (grown_alloc (grown_trans (grown_alloc G5 _) g6) _) g7⟩
set_option maxHeartbeats 1000000 in
theorem anyLine_any (w : World) (b k : Nat) (h : Cur w b k) (hk : k ≤ 600000000) : Calls Tryz.prog 20 #[.pointer (some ⟨b, 0, none⟩)] w fun e w' => TakesT wfT b (k + 14) w e w' := by
  have hl := h.lt
  have R0 := B3.new w (0, 0, 0) 24
  go_enter Tryz.func20, Tryz.ntmps20
  go_wp2_with fail
  refine (line_any _ b k (h.alloc _) (by omega)).mono ?_
  rintro e v1 ⟨t, rfl, ht, hc1, hg1⟩
  have HT := Lib.hid ht
  have R1 := (R0.away hg1 (by omega)).old (.cells #[.int .i64 t.1, .int .i64 t.2.1, .int .i64 t.2.2] 24)
  have L1 := B3.new v1 t 24
  have G1 := grown_alloc (grown_trans (grown_alloc (World.grownBy.refl w (some b)) (.cells #[.int .i64 0, .int .i64 0, .int .i64 0] 24)) hg1) (.cells #[.int .i64 t.1, .int .i64 t.2.1, .int .i64 t.2.2] 24)
  have hc1' := hc1.alloc (.cells #[.int .i64 t.1, .int .i64 t.2.1, .int .i64 t.2.2] 24)
  have hs1 : w.heap.size < v1.heap.size := cell_lt (R0.away hg1 (by omega)).1.1
  have HS1 := Lib.hid hs1
  obtain ⟨L, hL⟩ : ∃ L, L = v1.heap.size := ⟨_, rfl⟩
  have HLB := Lib.hid (show b < L ∧ w.heap.size < L by omega)
  clear ht R0 hg1 hc1
  go_wp2_with fail
  refine (pick_any 24 (by omega) _ b _ hc1' (by omega)).mono ?_
  rintro e v2 ⟨r, rfl, hr, hc2, hg2⟩
  have R2 := R1.away hg2 (by omega)
  have L2 := L1.away hg2 (by omega)
  have G2 := grown_trans G1 hg2
  rw [← hL] at L2 ⊢
  clear hr R1 L1 G1 hc1' hg2 hL
  cases h0 : r == 0
  · cases h1 : r == 1
    · cases h2 : r == 2
      · have HR := Lib.hid R2
        have HG := Lib.hid G2
        obtain ⟨⟨c0, c1, c2⟩, -, -, -⟩ := L2
        obtain ⟨⟨d0, d1, d2⟩, f0, f1, f2⟩ := R2
        have lc := cell_lt c0
        have ld := cell_lt d0
        go_wp2
        refine bodyPost_ret (T3.resultL (t := t) (g := w.heap.size) (T3.stores (s := (0, 0, 0)) HR.out.1 t) rfl rfl) rfl ?_
        exact ⟨t, rfl, smallT_wf HT.out, (hc2.more (by omega)).set3L hl, grown_set3L HG.out (Nat.le_refl _)⟩
      · have hl2 := hc2.lt
        have R2' := R2.old (.cells (ints [1000000, -1000000, -1000001, 1000000000]).toArray 3)
        have L2' := L2.old (.cells (ints [1000000, -1000000, -1000001, 1000000000]).toArray 3)
        go_wp2_with fail
        refine (among_any _ b _ v2.heap.size _ [1000000, -1000000, -1000001, 1000000000] (IS.litC v2 [1000000, -1000000, -1000001, 1000000000] (by simp)) (lit_away hl2) (by simp) (hc2.alloc _) (by omega)).mono ?_
        rintro e v3 ⟨x, rfl, hx, hc3, hg3⟩
        have G3 := grown_trans (grown_alloc G2 _) hg3
        have HX := Lib.hid (show i64W x by simp at hx; unfold i64W; omega)
        have R3 := R2'.away hg3 (by omega)
        have L3 := L2'.away hg3 (by have := HLB.out; omega)
        clear hx R2' L2'
        have HW := Lib.hid (L3.put2 x)
        have HRW := Lib.hid (R3.other (i := 2) (v := .int .i64 x) (show w.heap.size ≠ L by have := HLB.out; omega))
        have HC := Lib.hid ((hc3.more (show _ ≤ k + 14 by omega)).setL (i := 2) (u := .int .i64 x) HLB.out.1)
        have HG := Lib.hid (grown_setL (i := 2) (v := .int .i64 x) G3 (show w.heap.size ≤ L by have := HLB.out; omega))
        obtain ⟨⟨c0, c1, c2⟩, e0, e1, e2⟩ := L3
        have lc := cell_lt c0
        clear R2 L2 G2 R3 hc2 hc3 hg3 G3
        go_upto_region 9 with fail
        obtain ⟨W, hW⟩ : ∃ W, W = v3.setCell ⟨L, 2, none⟩ (.int .i64 x) := ⟨_, rfl⟩
        rw [← hW] at HW HRW HC HG ⊢
        clear hW c0 c1 c2 e0 e1 e2 lc
        obtain ⟨⟨c0, c1, c2⟩, -, -, -⟩ := HW.out
        obtain ⟨⟨d0, d1, d2⟩, f0, f1, f2⟩ := HRW.out
        have lc := cell_lt c0
        have ld := cell_lt d0
        dsimp only at c0 c1 c2
        go_wp2
        refine bodyPost_ret (T3.resultL (t := (t.1, t.2.1, x)) (g := w.heap.size) (T3.stores (s := (0, 0, 0)) HRW.out.1 (t.1, t.2.1, x)) rfl rfl) rfl ?_
        exact ⟨(t.1, t.2.1, x), rfl, ⟨(smallT_wf HT.out).1, (smallT_wf HT.out).2⟩, HC.out.set3L hl, grown_set3L HG.out (Nat.le_refl _)⟩
    · have hl2 := hc2.lt
      have R2' := R2.old (.cells (ints [1000000, -1000000, 1000001]).toArray 3)
      have L2' := L2.old (.cells (ints [1000000, -1000000, 1000001]).toArray 3)
      go_wp2_with fail
      refine (among_any _ b _ v2.heap.size _ [1000000, -1000000, 1000001] (IS.litC v2 [1000000, -1000000, 1000001] (by simp)) (lit_away hl2) (by simp) (hc2.alloc _) (by omega)).mono ?_
      rintro e v3 ⟨x, rfl, hx, hc3, hg3⟩
      have G3 := grown_trans (grown_alloc G2 _) hg3
      have HX := Lib.hid (show i64W x by simp at hx; unfold i64W; omega)
      have R3 := R2'.away hg3 (by omega)
      have L3 := L2'.away hg3 (by have := HLB.out; omega)
      clear hx R2' L2'
      have HW := Lib.hid (L3.put1 x)
      have HRW := Lib.hid (R3.other (i := 1) (v := .int .i64 x) (show w.heap.size ≠ L by have := HLB.out; omega))
      have HC := Lib.hid ((hc3.more (show _ ≤ k + 14 by omega)).setL (i := 1) (u := .int .i64 x) HLB.out.1)
      have HG := Lib.hid (grown_setL (i := 1) (v := .int .i64 x) G3 (show w.heap.size ≤ L by have := HLB.out; omega))
      obtain ⟨⟨c0, c1, c2⟩, e0, e1, e2⟩ := L3
      have lc := cell_lt c0
      clear R2 L2 G2 R3 hc2 hc3 hg3 G3
      go_upto_region 9 with fail
      obtain ⟨W, hW⟩ : ∃ W, W = v3.setCell ⟨L, 1, none⟩ (.int .i64 x) := ⟨_, rfl⟩
      rw [← hW] at HW HRW HC HG ⊢
      clear hW c0 c1 c2 e0 e1 e2 lc
      obtain ⟨⟨c0, c1, c2⟩, -, -, -⟩ := HW.out
      obtain ⟨⟨d0, d1, d2⟩, f0, f1, f2⟩ := HRW.out
      have lc := cell_lt c0
      have ld := cell_lt d0
      dsimp only at c0 c1 c2
      go_wp2
      refine bodyPost_ret (T3.resultL (t := (t.1, x, t.2.2)) (g := w.heap.size) (T3.stores (s := (0, 0, 0)) HRW.out.1 (t.1, x, t.2.2)) rfl rfl) rfl ?_
      exact ⟨(t.1, x, t.2.2), rfl, ⟨(smallT_wf HT.out).1, i64W_wrap HX.out⟩, HC.out.set3L hl, grown_set3L HG.out (Nat.le_refl _)⟩
  · go_wp2_with fail
    refine (anyNumW_any _ b _ hc2 (by omega)).mono ?_
    rintro e v3 ⟨x, rfl, hx, hc3, hg3⟩
    have G3 := grown_trans G2 hg3
    have HX := Lib.hid hx
    have R3 := R2.away hg3 (by omega)
    have L3 := L2.away hg3 (by have := HLB.out; omega)
    clear hx
    have HW := Lib.hid (L3.put0 x)
    have HRW := Lib.hid (R3.other (i := 0) (v := .int .i64 x) (show w.heap.size ≠ L by have := HLB.out; omega))
    have HC := Lib.hid ((hc3.more (show _ ≤ k + 14 by omega)).setL (i := 0) (u := .int .i64 x) HLB.out.1)
    have HG := Lib.hid (grown_setL (i := 0) (v := .int .i64 x) G3 (show w.heap.size ≤ L by have := HLB.out; omega))
    obtain ⟨⟨c0, c1, c2⟩, e0, e1, e2⟩ := L3
    have lc := cell_lt c0
    clear R2 L2 G2 R3 hc2 hc3 hg3 G3
    go_upto_region 9 with fail
    obtain ⟨W, hW⟩ : ∃ W, W = v3.setCell ⟨L, 0, none⟩ (.int .i64 x) := ⟨_, rfl⟩
    rw [← hW] at HW HRW HC HG ⊢
    clear hW c0 c1 c2 e0 e1 e2 lc
    obtain ⟨⟨c0, c1, c2⟩, -, -, -⟩ := HW.out
    obtain ⟨⟨d0, d1, d2⟩, f0, f1, f2⟩ := HRW.out
    have lc := cell_lt c0
    have ld := cell_lt d0
    dsimp only at c0 c1 c2
    go_wp2
    refine bodyPost_ret (T3.resultL (t := (x, t.2.1, t.2.2)) (g := w.heap.size) (T3.stores (s := (0, 0, 0)) HRW.out.1 (x, t.2.1, t.2.2)) rfl rfl) rfl ?_
    exact ⟨(x, t.2.1, t.2.2), rfl, ⟨i64W_wrap HX.out, (smallT_wf HT.out).2⟩, HC.out.set3L hl, grown_set3L HG.out (Nat.le_refl _)⟩
/-- A line and two integers are drawn. -/
def DrawsTXY (w : World) (e : Ending) (w' : World) : Prop := ∃ (t : Tm) (x y : Int), e = .returned (.tuple #[tmV t, .int .i64 x, .int .i64 y]) ∧ wfT t ∧ Below w.heap.size w w'
theorem T3.results3L {w : World} {g : Nat} {t : Tm} (h : T3 w g t) {fn : Func} {p u v : Tmp} {ts : Array Value} {x y : Value} (hr : fn.results = #[.cell p 24, .tmp u, .tmp v]) (hp : ts.getD p undef = .pointer (some ⟨g, 0, none⟩)) (hx : ts.getD u undef = x) (hy : ts.getD v undef = y) : (Go.results fn ts).run Tryz.prog w = .ok (.tuple #[tmV t, x, y]) w := by
  have hl := h.loadL
  simp only [Go.results, hr]
  have hp' : ts[p]?.getD undef = .pointer (some ⟨g, 0, none⟩) := by simpa using hp
  have hx' : ts[u]?.getD undef = x := by simpa using hx
  have hy' : ts[v]?.getD undef = y := by simpa using hy
  have ha : ∀ x, (asAddr (Value.pointer (some ⟨x, 0, none⟩))).run Tryz.prog w = .ok ⟨x, 0, none⟩ w := fun _ => rfl
  simp [Sem.run_bind, Result.andThen, hp', hx', hy', ha, hl]
theorem bel3D {x w : World} (h : Below x.heap.size x w) {g : Nat} (hg : x.heap.size ≤ g) (a b c : Value) : Below x.heap.size x (((w.setCell ⟨g, 0, none⟩ a).setCell ⟨g, 1, none⟩ b).setCell ⟨g, 2, none⟩ c) :=
  ((h.setCell hg _).setCell hg _).setCell hg _
theorem mul_small {s x X : Int} (hs : 0 ≤ s ∧ s ≤ 4) (hx : 0 ≤ x ∧ (x < 2 ∨ x = 0)) (hX : -2000000 ≤ X ∧ X ≤ 2000000) : IntKind.i64.wrap (s * x) = s * x ∧ IntKind.i64.wrap (X + s * x) = X + s * x := by
  have h : x = 0 ∨ x = 1 := by omega
  rcases h with rfl | rfl
  · rw [Int.mul_zero]
    exact ⟨IntWalk.i64_in _ (by omega), IntWalk.i64_in _ (by omega)⟩
  · rw [Int.mul_one]
    exact ⟨IntWalk.i64_in _ (by omega), IntWalk.i64_in _ (by omega)⟩
theorem RB.belowL {w w' : World} {A : Option Addr} {n : Nat} (h : RB w w.heap.size A n) (hb : Below w.heap.size w w') : RB w' w'.heap.size A n := RB.below h hb
/-- All that a draw of a line knows: the cursor's block b, the result's block R, a line's block L. -/
def DS (x : World) (b R L : Nat) (t : Tm) (k : Nat) (w : World) : Prop := B3 w R (0, 0, 0) ∧ B3 w L t ∧ Cur w b k ∧ Below x.heap.size x w ∧ x.heap.size ≤ b ∧ b ≠ R ∧ b ≠ L ∧ x.heap.size ≤ R
theorem bel_cur2 {x w w' : World} {b : Nat} (h : Below x.heap.size x w) (hb : x.heap.size ≤ b) (hg : w.grownBy w' (some b)) : Below x.heap.size x w' := h.grown hg h.size fun k hk => by injection hk with hk; omega
section
variable {x w w' : World} {b R L k k' : Nat} {t : Tm}
theorem DS.call (h : DS x b R L t k w) (hc : Cur w' b k') (hg : w.grownBy w' (some b)) : DS x b R L t k' w' := by
  obtain ⟨h1, h2, h3, h4, h5, h6, h7, h8⟩ := h
  exact ⟨h1.away hg (Ne.symm h6), h2.away hg (Ne.symm h7), hc, bel_cur2 h4 h5 hg, h5, h6, h7, h8⟩
theorem DS.below (h : DS x b R L t k w) (hb : Below w.heap.size w w') : DS x b R L t k w' := by
  obtain ⟨h1, h2, h3, h4, h5, h6, h7, h8⟩ := h
  exact ⟨h1.below hb, h2.below hb, h3.below hb, bel2 h4 hb, h5, h6, h7, h8⟩
theorem DS.drewN (h : DS x b R L t k w) (n : Nat) : DS x b R L t k (w.drewN n) := h.below (belN (Below.refl _ _) n)
theorem DS.drew (h : DS x b R L t k w) : DS x b R L t k w.drew := h.below (Below.refl _ _).drew
theorem DS.more (h : DS x b R L t k w) (hk : k ≤ k') : DS x b R L t k' w := by
  obtain ⟨h1, h2, h3, h4, h5⟩ := h
  exact ⟨h1, h2, h3.more hk, h4, h5⟩
theorem DS.cur (h : DS x b R L t k w) : Cur w b k := h.2.2.1
theorem DS.bel (h : DS x b R L t k w) : Below x.heap.size x w := h.2.2.2.1
theorem DS.res (h : DS x b R L t k w) : B3 w R (0, 0, 0) := h.1
theorem DS.loc (h : DS x b R L t k w) : B3 w L t := h.2.1
end
abbrev SD (x : World) (b R L : Nat) (a c d : Int) (k : Nat) (w : World) : Prop := w.cell? ⟨L, 0, none⟩ = some (.int .i64 a) ∧ w.cell? ⟨L, 1, none⟩ = some (.int .i64 c) ∧ w.cell? ⟨L, 2, none⟩ = some (.int .i64 d) ∧ w.cell? ⟨R, 0, none⟩ = some (.int .i64 0) ∧ w.cell? ⟨R, 1, none⟩ = some (.int .i64 0) ∧ w.cell? ⟨R, 2, none⟩ = some (.int .i64 0) ∧ w.frozen? ⟨R, 0, none⟩ = false ∧ w.frozen? ⟨R, 1, none⟩ = false ∧ w.frozen? ⟨R, 2, none⟩ = false ∧ Hid (DS x b R L (a, c, d) k w)
theorem SD.of {x w : World} {b R L k k' : Nat} {a c d : Int} (h : DS x b R L (a, c, d) k w) (hk : k ≤ k') : SD x b R L a c d k' w := ⟨h.2.1.1.1, h.2.1.1.2.1, h.2.1.1.2.2, h.1.1.1, h.1.1.2.1, h.1.1.2.2, h.1.2.1, h.1.2.2.1, h.1.2.2.2, h.more hk⟩
theorem SD.ds {x w : World} {b R L k : Nat} {a c d : Int} (h : SD x b R L a c d k w) : DS x b R L (a, c, d) k w := h.2.2.2.2.2.2.2.2.2
theorem SD.drew {x w : World} {b R L k : Nat} {a c d : Int} (h : SD x b R L a c d k w) : SD x b R L a c d k w.drew := SD.of (SD.ds h).drew (Nat.le_refl _)
theorem SD.drewN {x w : World} {b R L k : Nat} {a c d : Int} (h : SD x b R L a c d k w) (n : Nat) : SD x b R L a c d k (w.drewN n) := SD.of ((SD.ds h).drewN n) (Nat.le_refl _)
end Go.Proofs.YtakamboflfkchaaGreatDoor
