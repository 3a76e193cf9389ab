/-
  CellsOf and NewtonPolygon of the program and of the model: what each call returns.
  Condition: the slice reads as the terms that are named.
-/
import Derived.Test.YtcfplfjllnojoaaGreatCells
import Derived.Test.YtcfplfjllnojoaaGreatCeP
import Derived.Test.YtcfplfjllnojoaaGreatPgI
import Derived.Test.YtcfplfjllnojoaaGreatSlLaw
import Derived.Test.YtcfplfjllnojoaaGreatSTerm
namespace Go.Proofs.YtcfplfjllnojoaaGreat
set_option linter.unusedSimpArgs false
set_option linter.unusedVariables false
open Go.ChangeShapes Go.WideShapes Go.ChangeAt Go.RowKit
open Go.Sort (grow)

def ceR (l : List Tm) : List (List Int) := if plB l = true then ceL l else []
theorem ceR_yes {l : List Tm} (h : plB l = true) : ceR l = ceL l := if_pos h
theorem ceR_no {l : List Tm} (h : plB l = false) : ceR l = [] := if_neg (by rw [h]; simp)
theorem few_of {l : List Tm} {P : VL} (h : lls P = ceR l) : FewL P := by
  cases hl : plB l
  · rw [ceR_no hl] at h
    have : P = [] := by unfold lls at h; simpa using h
    subst this
    exact ⟨by simp, fun p hp => by simp at hp⟩
  · rw [ceR_yes hl] at h
    have hle := (plB_le hl).2
    refine ⟨?_, fun p hp => ?_⟩
    · have h1 := ceL_len hle
      rw [← h, lls_len] at h1; omega
    · have h1 : p.2 ∈ ceL l := by rw [← h]; exact List.mem_map.2 ⟨p, hp, rfl⟩
      have := (ceL_bd h1).2.2
      omega
set_option maxHeartbeats 1000000 in
theorem implCellsOf_any (w : World) (B : Nat) (v : Value) (l : List Tm) (h : TmS w B v l) : Calls Tryz.prog 20 #[v] w fun e w' => GivesLB (plB l) (ceR l) w e w' := by
  cases hl : plB l
  · have HL := Lib.hid hl
    clear hl
    go_enter Tryz.func20, Tryz.ntmps20
    go_wp2_with fail
    refine (isPlane_any _ B _ l h).mono ?_
    rintro e w1 ⟨rfl, b1⟩
    rw [HL.out]
    go_wp2
    go_ret2
    exact givesLB_nil rfl (ceR_no HL.out) b1
  · have HL := Lib.hid hl
    clear hl
    go_enter Tryz.func20, Tryz.ntmps20
    go_wp2_with fail
    refine (isPlane_any _ B _ l h).mono ?_
    rintro e w1 ⟨rfl, b1⟩
    rw [HL.out]
    go_wp2_with fail
    refine (cellsOf_any w1 B _ l (FS.below h b1) HL.out).mono ?_
    rintro e w2 ⟨r, P, rfl, hLS, hP, b2⟩
    go_wp2
    go_ret2
    exact ⟨r, P, rfl, hLS.base b1.size, by rw [hP, ceR_yes HL.out], bel2 b1 b2⟩
def nwR (l : List Tm) : List Pt := if plB l = true then hulL (ptsL l) else []
theorem plps_sm {l : List Tm} (h : plB l = true) : ∀ q ∈ ptsL l, Sm 1000 q := fun q hq => by
  obtain ⟨t, ht, rfl⟩ := List.mem_map.1 hq
  exact ptO_sm (((plB_iff l).1 h).2.1 t ht)
theorem nwR_le (l : List Tm) : (nwR l).length ≤ 1048576 := by
  unfold nwR
  split
  · next h => exact Nat.le_trans (hul_le (l := ptsL l) (fun e => by have := (plB_le h).1; rw [← ptsL_len, e] at this; simp at this)) (by rw [ptsL_len]; have := (plB_le h).2; omega)
  · simp
end Go.Proofs.YtcfplfjllnojoaaGreat
/-
  What the laws of chapter 7 import.
  No condition.
-/
namespace Go.Proofs.YtcfplfjllnojoaaGreat
set_option linter.unusedSimpArgs false
set_option linter.unusedVariables false
end Go.Proofs.YtcfplfjllnojoaaGreat
