/-
  Polynomials of the same function, in the program: what the call returns.
  Condition: the slices read as the lists that are named.
-/
import Derived.Test.YtinijfkidjakpaaSame
namespace Go.Proofs.Ytinijfkidjakpaa
set_option linter.unusedSimpArgs false
set_option linter.unusedVariables false
open Go.ChangeShapes Go.WideShapes Go.ChangeAt Go.RowKit

def pvEq (zs ys : List Int) (x : Int) : Bool := pv zs x == pv ys x
theorem same_no {zs ys : List Int} (h : decide (corL zs = corL ys) = false) : sameB zs ys = false := by unfold sameB; rw [h]; rfl
theorem same_bad {zs ys C : List Int} (hC : C = corL zs) {k : Nat} (hk : k < C.length) (h : pvEq zs ys (gd C k) = false) : sameB zs ys = false := by
  unfold sameB
  rw [Bool.and_eq_false_iff]
  refine .inr ?_
  rw [← hC, List.all_eq_false]
  exact ⟨_, gd_mem hk, by unfold pvEq at h; simp [h]⟩
theorem all_next' {f : Int → Bool} {C : List Int} {k : Nat} (hk : k < C.length) (h : (C.take k).all f = true) (h1 : f (gd C k) = true) : (C.take (k + 1)).all f = true := by
  rw [take_succ_gd C k hk, List.all_append, h, List.all_cons, h1]; rfl
theorem same_all {zs ys C : List Int} (hC : C = corL zs) (h : decide (corL zs = corL ys) = true) {k : Nat} (hk : ¬ k < C.length) (h1 : (C.take k).all (pvEq zs ys) = true) : sameB zs ys = true := by
  rw [List.take_of_length_le (by omega)] at h1
  unfold sameB
  rw [h, ← hC]
  exact h1
set_option maxHeartbeats 1000000 in
set_option maxRecDepth 100000 in
theorem implSameFunction_any (w : World) (B B' : Nat) (v v' : Value) (zs ys : List Int) (h : IS w B v zs) (h' : IS w B' v' ys) : Calls Try.prog 36 #[v, v'] w fun e w' => SaysBB (sfR zs ys) (sfB zs ys) w e w' := by
  have H := Lib.hid h
  have H' := Lib.hid h'
  have HP := Lib.hid h.parts
  have HP' := Lib.hid h'.parts
  obtain ⟨A, cap, hv, -, hp⟩ := HP.out
  obtain ⟨A', cap', hv', -, hp'⟩ := HP'.out
  subst hv hv'
  have HP := Lib.hid hp
  have HP' := Lib.hid hp'
  clear hp hp' h h'
  cases hz : poB zs
  · have HQ := Lib.hid (sf_no1 (ys := ys) hz)
    have HZ := Lib.hid hz
    go_enter Try.func36, Try.ntmps36
    go_wp2_with fail
    refine (implCornersOf_any _ B _ zs H.out).mono ?_
    rintro e w1 ⟨r1, rfl, hr1, b1⟩
    rw [HZ.out]
    go_wp2_with fail
    refine (implCornersOf_any _ B' _ ys (H'.out.below b1)).mono ?_
    rintro e w2 ⟨r2, rfl, hr2, b2⟩
    go_wp2
    go_ret2
    exact ⟨ret_bb (sfR_no HQ.out).symm HQ.out.symm, bel2 b1 b2⟩
  · cases hy : poB ys
    · have HQ := Lib.hid (sf_no2 (zs := zs) hy)
      have HZ := Lib.hid hz
      have HY := Lib.hid hy
      go_enter Try.func36, Try.ntmps36
      go_wp2_with fail
      refine (implCornersOf_any _ B _ zs H.out).mono ?_
      rintro e w1 ⟨r1, rfl, hr1, b1⟩
      rw [HZ.out]
      go_wp2_with fail
      refine (implCornersOf_any _ B' _ ys (H'.out.below b1)).mono ?_
      rintro e w2 ⟨r2, rfl, hr2, b2⟩
      rw [HY.out]
      go_wp2
      go_ret2
      exact ⟨ret_bb (sfR_no HQ.out).symm HQ.out.symm, bel2 b1 b2⟩
    · have HQ := Lib.hid (sf_yes hz hy)
      have HZ := Lib.hid hz
      have HY := Lib.hid hy
      have HCZ := Lib.hid (corL_ok hz)
      have HCY := Lib.hid (corL_ok hy)
      have hzl := (po_parts hz).2.2.1
      have hyl := (po_parts hy).2.2.1
      obtain ⟨C, hC⟩ : ∃ C, C = corL zs := ⟨_, rfl⟩
      have hcl := (corL_ok hz).le
      rw [← hC] at hcl
      have HC := Lib.hid hC
      cases hd : decide (corL zs = corL ys)
      · have HD := Lib.hid hd
        have HS := Lib.hid (show sfR zs ys = false by rw [sfR_yes HQ.out, same_no hd])
        clear hz hy hC hd
        go_enter Try.func36, Try.ntmps36
        go_wp2_with fail
        refine (implCornersOf_any _ B _ zs H.out).mono ?_
        rintro e w1 ⟨r1, rfl, hr1, b1⟩
        rw [HZ.out]
        go_wp2_with fail
        refine (implCornersOf_any _ B' _ ys (H'.out.below b1)).mono ?_
        rintro e w2 ⟨r2, rfl, hr2, b2⟩
        rw [HY.out]
        rw [coR_yes HZ.out] at hr1
        rw [coR_yes HY.out] at hr2
        go_wp2_with fail
        refine (slicesEqual_any _ _ _ _ _ _ _ (hr1.below b2) hr2).mono ?_
        rw [HD.out]
        rintro e w' ⟨rfl, nn, rfl⟩
        go_wp2
        go_ret2
        exact ⟨ret_bb HS.out.symm HQ.out.symm, belN (bel2 b1 b2) nn⟩
      · have HD := Lib.hid hd
        have HCE := Lib.hid (show corL ys = C by rw [hC]; exact (of_decide_eq_true hd).symm)
        clear hz hy hC hd
        go_enter Try.func36, Try.ntmps36
        go_wp2_with fail
        refine (implCornersOf_any _ B _ zs H.out).mono ?_
        rintro e w1 ⟨r1, rfl, hr1, b1⟩
        rw [HZ.out]
        go_wp2_with fail
        refine (implCornersOf_any _ B' _ ys (H'.out.below b1)).mono ?_
        rintro e w2 ⟨r2, rfl, hr2, b2⟩
        rw [HY.out]
        rw [coR_yes HZ.out] at hr1
        rw [coR_yes HY.out] at hr2
        go_wp2_with fail
        refine (slicesEqual_any _ _ _ _ _ _ _ (hr1.below b2) hr2).mono ?_
        rw [HD.out]
        rintro e w' ⟨rfl, nn, rfl⟩
        have hrC := hr1.below b2
        rw [← HC.out] at hrC
        obtain ⟨A2, cap2, rfl, -, hp2⟩ := hrC.parts
        have HP2 := Lib.hid hp2
        have HB := Lib.hid (bel2 b1 b2)
        obtain ⟨L, hL⟩ : ∃ L, L = C.length := ⟨_, rfl⟩
        rw [← hL] at hcl ⊢
        have HL := Lib.hid hL
        clear hrC hp2 hr1 hr2 b1 b2 hL
        go_wp2
        go_loopw [34] (fun i wr => ∃ k : Nat, k ≤ L ∧ i = .int .i64 k ∧ Hid ((C.take k).all (pvEq zs ys) = true) ∧ ∃ n, wr = w2.drewN n) (fun i _ => L - (intOf i).toNat)
        case atStart => exact ⟨0, by omega, rfl, Lib.hid rfl, nn, rfl⟩
        case round =>
          obtain ⟨k, hk, rfl, hall, n, rfl⟩ := hrel
          by_cases hlt : k < L
          · have hkc : k < C.length := by rw [← HL.out]; exact hlt
            have p1 := HCZ.out.pt k (by rw [← HC.out]; exact hkc)
            have p2 := HCY.out.pt k (by rw [HCE.out]; exact hkc)
            rw [← HC.out] at p1
            rw [HCE.out] at p2
            obtain ⟨e, he⟩ : ∃ e : Nat, gd C k = e := ⟨(gd C k).toNat, by omega⟩
            rw [he] at p1 p2
            obtain ⟨g2, rfl, ck⟩ := HP2.out k hkc
            rw [he] at ck
            obtain ⟨g, rfl, cz0⟩ := HP.out e (by omega)
            obtain ⟨g', rfl, cy0⟩ := HP'.out e (by omega)
            have cz := (HB.out.cell (cell_lt cz0)).trans cz0
            have cy := (HB.out.cell (cell_lt cy0)).trans cy0
            have hpe : pvEq zs ys (gd C k) = (gd zs e == gd ys e) := by rw [he]; unfold pvEq pv; rw [Int.toNat_natCast]
            have z1 : (e : Int) < (zs.length : Int) := by omega
            have z2 : (e : Int) < (ys.length : Int) := by omega
            have z3 : (0 : Int) ≤ (e : Int) := by omega
            obtain ⟨x, hx⟩ : ∃ x, x = gd zs e := ⟨_, rfl⟩
            obtain ⟨y, hy⟩ : ∃ x, x = gd ys e := ⟨_, rfl⟩
            rw [← hx] at cz hpe
            rw [← hy] at cy hpe
            have HPE := Lib.hid hpe
            clear hpe hx hy cz0 cy0 he
            cases hne : x != y
            · have HA := Lib.hid (all_next' hkc hall.out (by rw [HPE.out]; simpa using hne))
              go_wp2
              go_quiet (fail)
              go_wp2
              go_roundw
              case rel => exact ⟨k + 1, by omega, by go_num, HA, _, rfl⟩
              case measure => simp [intOf]; omega
            · have HS := Lib.hid (show sfR zs ys = false by rw [sfR_yes HQ.out]; exact same_bad HC.out hkc (by rw [HPE.out]; simpa using hne))
              go_wp2
              go_quiet (fail)
              go_wp2
              go_ret2
              exact ⟨ret_bb HS.out.symm HQ.out.symm, by first | exact belN HB.out _ | (rw [World.drewN_drewN]; exact belN HB.out _)⟩
          · obtain rfl : k = L := by omega
            have HS := Lib.hid (show sfR zs ys = true by rw [sfR_yes HQ.out]; exact same_all HC.out HD.out (by rw [← HL.out]; omega) hall.out)
            go_wp2
            go_ret2
            exact ⟨ret_bb HS.out.symm HQ.out.symm, belN HB.out n⟩
end Go.Proofs.Ytinijfkidjakpaa
