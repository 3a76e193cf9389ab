/-
  Lines: the terms with the least value, points on lines, centers, lines through points, meeting points, moved lines and lines that are the same: what each call returns.
  Conditions: the arguments are integers of Go's int.
-/
import Derived.Test.YtakamboflfkchaaGreatDoorLn
namespace Go.Proofs.YtakamboflfkchaaGreatDoor
set_option linter.unusedSimpArgs false
set_option linter.unusedVariables false
open Go.ChangeShapes Go.WideShapes Go.ChangeAt Go.RowKit
open Go.Sort (grow)

theorem lnA_no1 {t : Tm} {x y : Int} (h : lnB t = false) : lnA t x y = false := by unfold lnA; rw [h]; rfl
theorem lnA_no2 {t : Tm} {x y : Int} (h : lnP x y = false) : lnA t x y = false := by unfold lnA; rw [h]; simp
theorem lnA_yes {t : Tm} {x y : Int} (h : lnB t = true) (h' : lnP x y = true) : lnA t x y = true := by unfold lnA; rw [h, h']; rfl
theorem lnOR_no {t : Tm} {x y : Int} (h : lnA t x y = false) : lnOR t x y = false := by unfold lnOR; rw [h]; rfl
theorem lnOR_yes {t : Tm} {x y : Int} (h : lnA t x y = true) : lnOR t x y = lnO t x y := by unfold lnOR; rw [h]; rfl
/-- A line's block, first in a world. -/
theorem boxL (w : World) (t : Tm) (T : TypeId) : Gr w (w.alloc (.cells #[.int .i64 t.1, .int .i64 t.2.1, .int .i64 t.2.2] T)) ∧ T3 (w.alloc (.cells #[.int .i64 t.1, .int .i64 t.2.1, .int .i64 t.2.2] T)) w.heap.size t := ⟨gr1 _ _, T3.new _ _ _⟩
set_option maxHeartbeats 1000000 in
set_option maxRecDepth 100000 in
theorem implTermsOn_any (t : Tm) (x y : Int) (hw : wfT t) (w : World) : Calls Tryz.prog 33 #[tmV t, .int .i64 x, .int .i64 y] w fun e w' => GivesIB (lnA t x y) (lnTR t x y) w e w' := by
  have HI := Lib.hid (fun W => implIsLine_any t hw W)
  have HP := Lib.hid (fun W => arePlace_any x y W)
  cases h1 : lnB t
  · rw [h1] at HI
    have HN := Lib.hid (lnTR_no (lnA_no1 (x := x) (y := y) h1))
    rw [lnA_no1 h1]
    obtain ⟨a, b, c⟩ := t
    clear h1 hw
    go_enter Tryz.func33, Tryz.ntmps33
    go_wp2_with fail
    refine (HI.out _).mono ?_
    rintro e w1 ⟨rfl, g1⟩
    go_wp2
    go_ret2
    exact givesIB_nil rfl HN.out ((gr1 _ _).trans g1).below
  · rw [h1] at HI
    cases h2 : lnP x y
    · rw [h2] at HP
      have HN := Lib.hid (lnTR_no (lnA_no2 (t := t) h2))
      rw [lnA_no2 h2]
      obtain ⟨a, b, c⟩ := t
      clear h1 h2 hw
      go_enter Tryz.func33, Tryz.ntmps33
      go_wp2_with fail
      refine (HI.out _).mono ?_
      rintro e w1 ⟨rfl, g1⟩
      go_wp2_with (go_at_call 49; refine (HP.out _).mono ?_; rintro e w' ⟨rfl, rfl⟩)
      go_ret2
      exact givesIB_nil rfl HN.out ((gr1 _ _).trans g1).below
    · rw [h2] at HP
      have HN := Lib.hid (lnTR_yes (lnA_yes h1 h2))
      rw [lnA_yes h1 h2]
      obtain ⟨⟨a1, a2⟩, ⟨b1, b2⟩, z1, z2⟩ := lnB_parts h1
      obtain ⟨⟨x1, x2⟩, y1, y2⟩ := lnP_parts h2
      have HV := Lib.hid (fun W => lineValuesAt_any t x y (IntWalk.i64_in _ (by omega)) (IntWalk.i64_in _ (by omega)) W)
      have HA := Lib.hid (fun W => aboveLeast_any (t.1 + x, t.2.1 + y, t.2.2) ⟨⟨by dsimp only; omega, by dsimp only; omega⟩, ⟨by dsimp only; omega, by dsimp only; omega⟩, by dsimp only; omega, by dsimp only; omega⟩ W)
      have hx := (boxL w t 24).2
      have hg := (boxL w t 24).1
      have HX := Lib.hid hx
      have HB := Lib.hid hg
      clear hx hg
      have hm3 := least3_is (a := t.1 + x) (b := t.2.1 + y) (c := t.2.2) (by omega) (by omega) (by omega)
      obtain ⟨a, b, c⟩ := t
      dsimp only at HA HV hm3 a1 a2 b1 b2 z1 z2
      obtain ⟨zs, hzs⟩ : ∃ zs, zs = lnV (a, b, c) x y := ⟨_, rfl⟩
      obtain ⟨m, hm⟩ : ∃ m, m = leastL zs := ⟨_, rfl⟩
      have HT := Lib.hid (show lnT (a, b, c) x y = plc zs m 3 by rw [hm, hzs]; rfl)
      have hm' : m = least3 (a + x) (b + y) c := by rw [hm, hzs]; exact hm3
      rw [← hm'] at HA
      obtain ⟨d0, e0⟩ : ∃ d, d = a + x - m := ⟨_, rfl⟩
      obtain ⟨d1, e1⟩ : ∃ d, d = b + y - m := ⟨_, rfl⟩
      obtain ⟨d2, e2⟩ : ∃ d, d = c - m := ⟨_, rfl⟩
      rw [← e0, ← e1, ← e2] at HA
      have HD0 := Lib.hid (show (gd zs 0 == m) = (d0 == 0) by rw [hzs, e0]; simp only [lnV, gd, List.getD_cons_zero]; rw [Bool.eq_iff_iff]; simp; omega)
      have HD1 := Lib.hid (show (gd zs 1 == m) = (d1 == 0) by rw [hzs, e1]; simp only [lnV, gd, List.getD_cons_zero, List.getD_cons_succ]; rw [Bool.eq_iff_iff]; simp; omega)
      have HD2 := Lib.hid (show (gd zs 2 == m) = (d2 == 0) by rw [hzs, e2]; simp only [lnV, gd, List.getD_cons_zero, List.getD_cons_succ]; rw [Bool.eq_iff_iff]; simp; omega)
      rw [HT.out] at HN
      clear hm3 hm hm' e0 e1 e2 hzs h1 h2 hw a1 a2 b1 b2 z1 z2 x1 x2 y1 y2 HT
      obtain ⟨i0, hi, hz0, hz1, hz2⟩ := info_parts infoInt
      have j0 := index_v0 d0 d1 d2
      have j1 := index_v1 d0 d1 d2
      have j2 := index_v2 d0 d1 d2
      go_enter Tryz.func33, Tryz.ntmps33
      go_wp2_with fail
      refine (HI.out _).mono ?_
      rintro e w1 ⟨rfl, g1⟩
      have x1 := HX.out.below g1.below
      obtain ⟨c0, c1, c2⟩ := x1
      have hl1 := cell_lt c0
      have B1 := HB.out.trans g1
      clear g1
      go_wp2_with (go_at_call 49; refine (HP.out _).mono ?_; rintro e w' ⟨rfl, rfl⟩)
      refine (HV.out _).mono ?_
      rintro e w2 ⟨rfl, g2⟩
      have B2 := B1.trans g2
      clear g2 B1 c0 c1 c2 hl1
      go_wp2_with fail
      refine (HA.out _).mono ?_
      rintro e w3 ⟨rfl, g3⟩
      have B3 := Lib.hid (B2.trans g3).below
      clear g3 B2
      go_wp2_with fail
      go_loopw [8, 25] (fun o i wr => ∃ k : Nat, k ≤ 3 ∧ i = .int .i64 k ∧ IS wr w3.heap.size o (plc zs m k) ∧ Below w3.heap.size w3 wr) (fun _ i _ => 3 - (intOf i).toNat)
      case atStart => exact ⟨0, by omega, rfl, IS.nil_ _ _, Below.refl _ _⟩
      case round =>
        obtain ⟨k, hk, rfl, ho, hb⟩ := hrel
        by_cases hlt : k < 3
        · obtain rfl | rfl | rfl : k = 0 ∨ k = 1 ∨ k = 2 := by omega
          · cases hq : d0 == 0
            · have HPL := Lib.hid (plc_no (k := 0) ((HD0.out).trans hq))
              go_wp2
              go_roundw
              case rel => exact ⟨0 + 1, by omega, by go_num, by rw [HPL.out]; exact ho, hb⟩
              case measure => simp [intOf]
            · have HPL := Lib.hid (plc_yes (k := 0) ((HD0.out).trans hq))
              have hpl := plc_len zs m 0
              have ho' : wr.ownsRow w3.heap.size 3 1 u8 (plc zs m 0).length (ints (plc zs m 0)) := ho
              go_wp2_with (at_builtin; refine wpList_append_own _ rfl _ _ 61 rfl w3.heap.size 3 i0 (.int .i64 0) 1 8 Tryz.underlying61 hi hz0 hz1 hz2 rfl (by decide) _ _ _ rfl (ho'.alloc _) ⟨wr.heap.size, 0, none⟩ 1 1 [.int .i64 0] rfl rfl (one_new _ _) (by simp [Value.oneCell']) (by unfold maxLen; omega) (by omega) (by have := hb.size; simp; omega) ?_; intro v' w1 hown' hgrow hnil)
              have hb' : Below w3.heap.size w3 w1 := (hb.alloc hb.size _).grown hgrow (by have := hb.size; simp; omega) (fun g' hg' => (World.ownsRow.lt ho' g' hg').1)
              have hrow := IS.snoc rfl hown'
              rw [show ([0] : List Int) = [((0 : Nat) : Int)] from rfl, ← HPL.out] at hrow
              go_wp2
              go_roundw
              case rel => exact ⟨0 + 1, by omega, by go_num, hrow, hb'⟩
              case measure => simp [intOf]
          · cases hq : d1 == 0
            · have HPL := Lib.hid (plc_no (k := 1) ((HD1.out).trans hq))
              go_wp2
              go_roundw
              case rel => exact ⟨1 + 1, by omega, by go_num, by rw [HPL.out]; exact ho, hb⟩
              case measure => simp [intOf]
            · have HPL := Lib.hid (plc_yes (k := 1) ((HD1.out).trans hq))
              have hpl := plc_len zs m 1
              have ho' : wr.ownsRow w3.heap.size 3 1 u8 (plc zs m 1).length (ints (plc zs m 1)) := ho
              go_wp2_with (at_builtin; refine wpList_append_own _ rfl _ _ 61 rfl w3.heap.size 3 i0 (.int .i64 0) 1 8 Tryz.underlying61 hi hz0 hz1 hz2 rfl (by decide) _ _ _ rfl (ho'.alloc _) ⟨wr.heap.size, 0, none⟩ 1 1 [.int .i64 1] rfl rfl (one_new _ _) (by simp [Value.oneCell']) (by unfold maxLen; omega) (by omega) (by have := hb.size; simp; omega) ?_; intro v' w1 hown' hgrow hnil)
              have hb' : Below w3.heap.size w3 w1 := (hb.alloc hb.size _).grown hgrow (by have := hb.size; simp; omega) (fun g' hg' => (World.ownsRow.lt ho' g' hg').1)
              have hrow := IS.snoc rfl hown'
              rw [show ([1] : List Int) = [((1 : Nat) : Int)] from rfl, ← HPL.out] at hrow
              go_wp2
              go_roundw
              case rel => exact ⟨1 + 1, by omega, by go_num, hrow, hb'⟩
              case measure => simp [intOf]
          · cases hq : d2 == 0
            · have HPL := Lib.hid (plc_no (k := 2) ((HD2.out).trans hq))
              go_wp2
              go_roundw
              case rel => exact ⟨2 + 1, by omega, by go_num, by rw [HPL.out]; exact ho, hb⟩
              case measure => simp [intOf]
            · have HPL := Lib.hid (plc_yes (k := 2) ((HD2.out).trans hq))
              have hpl := plc_len zs m 2
              have ho' : wr.ownsRow w3.heap.size 3 1 u8 (plc zs m 2).length (ints (plc zs m 2)) := ho
              go_wp2_with (at_builtin; refine wpList_append_own _ rfl _ _ 61 rfl w3.heap.size 3 i0 (.int .i64 0) 1 8 Tryz.underlying61 hi hz0 hz1 hz2 rfl (by decide) _ _ _ rfl (ho'.alloc _) ⟨wr.heap.size, 0, none⟩ 1 1 [.int .i64 2] rfl rfl (one_new _ _) (by simp [Value.oneCell']) (by unfold maxLen; omega) (by omega) (by have := hb.size; simp; omega) ?_; intro v' w1 hown' hgrow hnil)
              have hb' : Below w3.heap.size w3 w1 := (hb.alloc hb.size _).grown hgrow (by have := hb.size; simp; omega) (fun g' hg' => (World.ownsRow.lt ho' g' hg').1)
              have hrow := IS.snoc rfl hown'
              rw [show ([2] : List Int) = [((2 : Nat) : Int)] from rfl, ← HPL.out] at hrow
              go_wp2
              go_roundw
              case rel => exact ⟨2 + 1, by omega, by go_num, hrow, hb'⟩
              case measure => simp [intOf]
        · obtain rfl : k = 3 := by omega
          go_wp2
          go_ret2
          exact givesIB_yes rfl (by rw [HN.out]; exact ho.base B3.out.size) (bel2 B3.out hb)
theorem implIsOnLine_any (t : Tm) (x y : Int) (hw : wfT t) (w : World) : Calls Tryz.prog 12 #[tmV t, .int .i64 x, .int .i64 y] w fun e w' => SaysBB (lnOR t x y) (lnA t x y) w e w' := by
  have HT := Lib.hid (fun W => implTermsOn_any t x y hw W)
  have HO := Lib.hid (show lnOR t x y = decide (2 ≤ (lnTR t x y).length) by
    cases h : lnA t x y
    · rw [lnOR_no h, lnTR_no h]; rfl
    · rw [lnOR_yes h, lnTR_yes h]; rfl)
  rw [HO.out]
  obtain ⟨zs, hz⟩ : ∃ zs, zs = lnTR t x y := ⟨_, rfl⟩
  rw [← hz] at HT ⊢
  obtain ⟨p, hp⟩ : ∃ p, p = lnA t x y := ⟨_, rfl⟩
  rw [← hp] at HT ⊢
  obtain ⟨a, b, c⟩ := t
  clear hz hp HO hw
  go_enter Tryz.func12, Tryz.ntmps12
  go_wp2_with fail
  refine (HT.out _).mono ?_
  rintro e w2 ⟨r, rfl, hr, hb⟩
  obtain ⟨A, cap, rfl, hm, hp⟩ := hr.parts
  have B2 := Lib.hid (bel2 (gr1 _ _).below hb)
  clear hp hr hb
  go_wp2
  go_ret2
  exact ⟨ret_bb (by simp <;> omega) rfl, B2.out⟩
end Go.Proofs.YtakamboflfkchaaGreatDoor
