/-
  CellsOf and NewtonPolygon of the program and of the model: what each call returns.
  Condition: the slice reads as the terms that are named.
-/
import Derived.Test.YtoecjdpeldcajaaCells
import Derived.Test.YtoecjdpeldcajaaCeP
import Derived.Test.YtoecjdpeldcajaaPgK
import Derived.Test.YtoecjdpeldcajaaSlLaw
import Derived.Test.YtoecjdpeldcajaaSPoint
import Derived.Test.YtoecjdpeldcajaaSTerm
import Derived.Test.YtoecjdpeldcajaaOpenS
namespace Go.Proofs.Ytoecjdpeldcajaa
set_option linter.unusedSimpArgs false
set_option linter.unusedVariables false
open Go.ChangeShapes Go.WideShapes Go.ChangeAt Go.RowKit
open Go.Sort (grow)

def ceR (l : List Tm) : List (List Int) := if plB l = true then ceL l else []
theorem ceR_yes {l : List Tm} (h : plB l = true) : ceR l = ceL l := if_pos h
theorem ceR_no {l : List Tm} (h : plB l = false) : ceR l = [] := if_neg (by rw [h]; simp)
theorem few_of {l : List Tm} {P : VL} (h : lls P = ceR l) : FewL P := by
  cases hl : plB l
  · rw [ceR_no hl] at h
    have : P = [] := by unfold lls at h; simpa using h
    subst this
    exact ⟨by simp, fun p hp => by simp at hp⟩
  · rw [ceR_yes hl] at h
    have hle := (plB_le hl).2
    refine ⟨?_, fun p hp => ?_⟩
    · have h1 := ceL_len hle
      rw [← h, lls_len] at h1; omega
    · have h1 : p.2 ∈ ceL l := by rw [← h]; exact List.mem_map.2 ⟨p, hp, rfl⟩
      have := (ceL_bd h1).2.2
      omega
set_option maxHeartbeats 1000000 in
theorem specCellsOf_any (w : World) (B : Nat) (v : Value) (l : List Tm) (h : TmS w B v l) : Calls Try.prog 21 #[v] w fun e w' => GivesLB (plB l) (ceR l) w e w' := by
  cases hl : plB l
  · have HL := Lib.hid hl
    clear hl
    go_enter Try.func21, Try.ntmps21
    go_wp2_with fail
    refine (plGood_any _ B _ l h).mono ?_
    rintro e w1 ⟨rfl, b1⟩
    rw [HL.out]
    go_wp2
    go_ret2
    exact givesLB_nil rfl (ceR_no HL.out) b1
  · have HL := Lib.hid hl
    clear hl
    go_enter Try.func21, Try.ntmps21
    go_wp2_with fail
    refine (plGood_any _ B _ l h).mono ?_
    rintro e w1 ⟨rfl, b1⟩
    rw [HL.out]
    go_wp2_with fail
    refine (ceOf_any w1 B _ l (FS.below h b1) HL.out).mono ?_
    rintro e w2 ⟨r, P, rfl, hLS, hP, b2⟩
    go_wp2
    go_ret2
    exact ⟨r, P, rfl, hLS.base b1.size, by rw [hP, ceR_yes HL.out], bel2 b1 b2⟩
set_option maxHeartbeats 1000000 in
theorem implCellsOf_any (w : World) (B : Nat) (v : Value) (l : List Tm) (h : TmS w B v l) : Calls Try.prog 22 #[v] w fun e w' => GivesLB (plB l) (ceR l) w e w' := by
  cases hl : plB l
  · have HL := Lib.hid hl
    clear hl
    go_enter Try.func22, Try.ntmps22
    go_wp2_with fail
    refine (isPlane_any _ B _ l h).mono ?_
    rintro e w1 ⟨rfl, b1⟩
    rw [HL.out]
    go_wp2
    go_ret2
    exact givesLB_nil rfl (ceR_no HL.out) b1
  · have HL := Lib.hid hl
    clear hl
    go_enter Try.func22, Try.ntmps22
    go_wp2_with fail
    refine (isPlane_any _ B _ l h).mono ?_
    rintro e w1 ⟨rfl, b1⟩
    rw [HL.out]
    go_wp2_with fail
    refine (cellsOf_any w1 B _ l (FS.below h b1) HL.out).mono ?_
    rintro e w2 ⟨r, P, rfl, hLS, hP, b2⟩
    go_wp2
    go_ret2
    exact ⟨r, P, rfl, hLS.base b1.size, by rw [hP, ceR_yes HL.out], bel2 b1 b2⟩
def nwR (l : List Tm) : List Pt := if plB l = true then hulL (ptsL l) else []
theorem plps_sm {l : List Tm} (h : plB l = true) : ∀ q ∈ ptsL l, Sm 1000 q := fun q hq => by
  obtain ⟨t, ht, rfl⟩ := List.mem_map.1 hq
  exact ptO_sm (((plB_iff l).1 h).2.1 t ht)
theorem nwR_le (l : List Tm) : (nwR l).length ≤ 1048576 := by
  unfold nwR
  split
  · next h => exact Nat.le_trans (hul_le (l := ptsL l) (fun e => by have := (plB_le h).1; rw [← ptsL_len, e] at this; simp at this)) (by rw [ptsL_len]; have := (plB_le h).2; omega)
  · simp
set_option maxHeartbeats 1000000 in
theorem specNewtonPolygon_any (w : World) (B : Nat) (v : Value) (l : List Tm) (h : TmS w B v l) : Calls Try.prog 26 #[v] w fun e w' => GivesPtB (plB l) (nwR l) w e w' := by
  cases hl : plB l
  · have HL := Lib.hid hl
    clear hl
    go_enter Try.func26, Try.ntmps26
    go_wp2_with fail
    refine (plGood_any _ B _ l h).mono ?_
    rintro e w1 ⟨rfl, b1⟩
    rw [HL.out]
    go_wp2
    go_ret2
    exact givesPtB_nil rfl (by unfold nwR; rw [HL.out]; simp) b1
  · have HL := Lib.hid hl
    have hle := (plB_le hl).2
    clear hl
    go_enter Try.func26, Try.ntmps26
    go_wp2_with fail
    refine (plGood_any _ B _ l h).mono ?_
    rintro e w1 ⟨rfl, b1⟩
    rw [HL.out]
    go_wp2_with fail
    refine (plPoints_any w1 B _ l (FS.below h b1) (by omega)).mono ?_
    rintro e w2 ⟨r, rfl, hr, b2⟩
    go_wp2_with fail
    refine (pyHull_any w2 _ _ (ptsL l) hr (by rw [ptsL_len]; omega) (plps_sm HL.out)).mono ?_
    rintro e w3 ⟨r3, rfl, hr3, b3⟩
    go_wp2
    go_ret2
    exact givesPtB_yes rfl (by unfold nwR; rw [if_pos HL.out]; exact FS.base hr3 (Nat.le_trans b1.size b2.size)) (bel2 (bel2 b1 b2) b3)
set_option maxHeartbeats 1000000 in
theorem implNewtonPolygon_any (w : World) (B : Nat) (v : Value) (l : List Tm) (h : TmS w B v l) : Calls Try.prog 27 #[v] w fun e w' => GivesPtB (plB l) (nwR l) w e w' := by
  cases hl : plB l
  · have HL := Lib.hid hl
    go_enter Try.func27, Try.ntmps27
    go_wp2_with fail
    refine (implNewtonPoints_any _ B _ l h).mono ?_
    rintro e w1 ⟨r, rfl, hr, b1⟩
    rw [HL.out]
    clear hl
    go_wp2
    go_ret2
    exact givesPtB_nil rfl (by unfold nwR; rw [HL.out]; simp) b1
  · have HL := Lib.hid hl
    have hle := (plB_le hl).2
    go_enter Try.func27, Try.ntmps27
    go_wp2_with fail
    refine (implNewtonPoints_any _ B _ l h).mono ?_
    rintro e w1 ⟨r, rfl, hr, b1⟩
    rw [HL.out]
    rw [ptsR_yes hl] at hr
    clear hl
    go_wp2_with fail
    refine (hullOf_any w w1 _ _ (ptsL l) hr (by rw [ptsL_len]; omega) (plps_sm HL.out) b1 (Nat.le_refl _)).mono ?_
    rintro e w3 ⟨r3, rfl, hr3, b3⟩
    go_wp2
    go_ret2
    exact givesPtB_yes rfl (by unfold nwR; rw [if_pos HL.out]; exact hr3) b3
end Go.Proofs.Ytoecjdpeldcajaa
/-
  What the laws of chapter 7 import.
  No condition.
-/
namespace Go.Proofs.Ytoecjdpeldcajaa
end Go.Proofs.Ytoecjdpeldcajaa
