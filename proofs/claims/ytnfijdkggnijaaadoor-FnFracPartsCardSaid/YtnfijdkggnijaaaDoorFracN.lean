/-
  Floors, ceilings and means, as numbers: what is true of them, whatever program makes them.
  Condition: the fractions are valid.
-/
import Derived.Test.YtnfijdkggnijaaaDoorFracM
namespace Go.Proofs.YtnfijdkggnijaaaDoor
set_option linter.unusedSimpArgs false
set_option linter.unusedVariables false
open Go.ChangeShapes Go.WideShapes Go.ChangeAt Go.RowKit

/-- The floor is below, and by less than 1. -/
theorem floor_at (n d : Int) (hd : 0 < d) : floorI n d * d ≤ n ∧ n < (floorI n d + 1) * d := by
  have h1 := Int.tmod_add_mul_tdiv n d
  have h2 := Int.tmod_lt_of_pos n hd
  have h3 : -d < n.tmod d := by
    have := Int.tmod_lt_of_pos (-n) hd
    rw [Int.neg_tmod] at this
    omega
  unfold floorI
  generalize n.tmod d = r at *
  generalize n.tdiv d = q at *
  have e0 : d * q = q * d := Int.mul_comm d q
  split
  · rw [show (q - 1 + 1) * d = q * d by rw [Int.sub_add_cancel], Int.sub_mul]
    omega
  · rw [Int.add_mul]
    omega
theorem lt_of_mul {x y d : Int} (hd : 0 < d) (h : x * d < y * d) : x < y := Int.lt_of_mul_lt_mul_right h (Int.le_of_lt hd)
/-- The ceiling is at most 1 above the floor, and the same for whole numbers alone. -/
theorem ceil_at {a b : Int} (h : frB a b = true) : -floorI (-a) b - floorI a b ≤ 1 ∧ (-floorI (-a) b = floorI a b ↔ b = 1) := by
  obtain ⟨hb, hg⟩ := frB_pos h
  obtain ⟨l1, l2⟩ := floor_at a b hb
  obtain ⟨u1, u2⟩ := floor_at (-a) b hb
  generalize floorI a b = l at *
  generalize floorI (-a) b = f at *
  have e1 : (-f - 1) * b = -(f + 1) * b := by rw [show -f - 1 = -(f + 1) by omega]
  rw [Int.neg_mul] at e1
  have e2 : -f * b = -(f * b) := Int.neg_mul f b
  refine ⟨?_, ?_, ?_⟩
  · have := lt_of_mul (x := -f - 1) (y := l + 1) hb (by omega)
    omega
  · intro he
    rw [he] at e2
    have ha : a = l * b := by omega
    have hd : b ∣ a := ⟨l, by rw [ha, Int.mul_comm]⟩
    have : Int.gcd a b = b.natAbs := by
      rw [Int.gcd_comm]; exact Nat.gcd_eq_left (Int.natAbs_dvd_natAbs.2 hd)
    omega
  · rintro rfl
    omega
/-- A mean makes up the sum. -/
theorem mean_at {s t sum len : Int} {g o : Bool} (hs : s = okF g (mkN sum len)) (ht : t = okF g (mkD sum len)) (ho : o = (g && mkB sum len)) (h : o = true) : sum * t = len * s ∧ Lim s ∧ Lim t := by
  subst hs ht ho
  simp only [Bool.and_eq_true] at h
  obtain ⟨rfl, hm⟩ := h
  obtain ⟨-, hf, he⟩ := mk_parts hm
  simp only [okF, if_pos]
  have := frB_lim hf
  exact ⟨by rw [he, Int.mul_comm], this.1, this.2⟩
end Go.Proofs.YtnfijdkggnijaaaDoor
