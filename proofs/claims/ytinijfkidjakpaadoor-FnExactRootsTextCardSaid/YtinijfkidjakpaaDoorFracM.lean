/-
  Fractions in lowest terms, as numbers: what is true of them, whatever program makes them.
  Condition: the divisors are not 0.
-/
import Derived.Test.YtinijfkidjakpaaDoorFracD
namespace Go.Proofs.YtinijfkidjakpaaDoor
set_option linter.unusedSimpArgs false
set_option linter.unusedVariables false
open Go.ChangeShapes Go.WideShapes Go.ChangeAt Go.RowKit

theorem sg_dvd (n d : Int) : sg n d ∣ n ∧ sg n d ∣ d := by
  unfold sg gI
  split
  · exact ⟨Int.neg_dvd.2 (Int.gcd_dvd_left ..), Int.neg_dvd.2 (Int.gcd_dvd_right ..)⟩
  · exact ⟨Int.gcd_dvd_left .., Int.gcd_dvd_right ..⟩
theorem sg_abs (n d : Int) : (sg n d).natAbs = Int.gcd n d := by
  unfold sg gI; split <;> simp
/-- A quotient is taken down to lowest terms by one factor. -/
theorem red (n d : Int) (hd : d ≠ 0) : ∃ k, k ≠ 0 ∧ n = loN n d * k ∧ d = loD n d * k ∧ 0 < loD n d ∧ Int.gcd (loN n d) (loD n d) = 1 := by
  obtain ⟨h1, h2⟩ := sg_dvd n d
  have hk := sg_ne (n := n) hd
  have e1 : loN n d * sg n d = n := Int.tdiv_mul_cancel h1
  have e2 : loD n d * sg n d = d := Int.tdiv_mul_cancel h2
  have ha := sg_abs n d
  refine ⟨sg n d, hk, e1.symm, e2.symm, ?_, ?_⟩
  · have hg := gI_pos (n := n) hd
    rcases Int.lt_trichotomy (loD n d) 0 with h | h | h
    · exfalso
      by_cases hn : d < 0
      · have hs : sg n d = -gI n d := sg_neg hn
        have := Int.mul_pos_of_neg_of_neg h (show sg n d < 0 by omega)
        omega
      · have hs : sg n d = gI n d := sg_pos hn
        have := Int.mul_neg_of_neg_of_pos h (show 0 < sg n d by omega)
        omega
    · rw [h, Int.zero_mul] at e2; exact absurd e2.symm hd
    · exact h
  · have hg : Int.gcd n d = Int.gcd (loN n d) (loD n d) * Int.gcd n d := by
      have := Int.gcd_mul_right (loN n d) (sg n d) (loD n d)
      rw [e1, e2, ha] at this
      exact this
    have hp : 0 < Int.gcd n d := by have := gI_pos (n := n) hd; unfold gI at this; omega
    exact Nat.eq_of_mul_eq_mul_right hp (by rw [Nat.one_mul]; exact hg.symm)
theorem cop_dvd {a b q : Int} (h : Int.gcd a b = 1) (hd : b ∣ a * q) : b ∣ q := by
  have h1 : Nat.Coprime b.natAbs a.natAbs := (Nat.coprime_comm).1 h
  have h2 : b.natAbs ∣ a.natAbs * q.natAbs := by rw [← Int.natAbs_mul]; exact Int.natAbs_dvd_natAbs.2 hd
  exact Int.natAbs_dvd_natAbs.1 (h1.dvd_of_dvd_mul_left h2)
/-- There is one fraction in lowest terms. -/
theorem uniq {a b p q : Int} (hb : 0 < b) (hg : Int.gcd a b = 1) (hq : q ≠ 0) (h : p * b = a * q) : loN p q = a ∧ loD p q = b := by
  obtain ⟨k, hk, e1, e2, hQ, hG⟩ := red p q hq
  generalize loN p q = P at *
  generalize loD p q = Q at *
  have h1 : P * b = a * Q := by
    refine Int.eq_of_mul_eq_mul_right hk ?_
    rw [e1, e2] at h
    rw [Int.mul_right_comm, h, Int.mul_assoc]
  have d1 : b ∣ Q := cop_dvd hg ⟨P, by rw [← h1, Int.mul_comm]⟩
  have d2 : Q ∣ b := cop_dvd hG ⟨a, by rw [h1, Int.mul_comm]⟩
  have hQb : Q = b := by
    have l1 := Int.le_of_dvd hQ d1
    have l2 := Int.le_of_dvd hb d2
    omega
  subst hQb
  exact ⟨Int.eq_of_mul_eq_mul_right (by omega) h1, rfl⟩
theorem frB_pos {a b : Int} (h : frB a b = true) : 0 < b ∧ Int.gcd a b = 1 := by
  obtain ⟨-, ⟨h1, -⟩, h2⟩ := frB_bd h
  exact ⟨by omega, by unfold gI at h2; omega⟩
theorem mk_uniq {a b p q : Int} (h : frB a b = true) (hq : q ≠ 0) (e : p * b = a * q) : mkB p q = true ∧ mkN p q = a ∧ mkD p q = b := by
  obtain ⟨hb, hg⟩ := frB_pos h
  obtain ⟨e1, e2⟩ := uniq hb hg hq e
  have hm : mkB p q = true := by unfold mkB; rw [e1, e2, h]; simpa using hq
  exact ⟨hm, by rw [mkN, if_pos hm, e1], by rw [mkD, if_pos hm, e2]⟩
/-- What is made is a fraction, and the same number. -/
theorem mk_parts {p q : Int} (h : mkB p q = true) : q ≠ 0 ∧ frB (mkN p q) (mkD p q) = true ∧ p * mkD p q = mkN p q * q := by
  have hm := h
  unfold mkB at h
  simp only [Bool.and_eq_true, bne_iff_ne, ne_eq] at h
  rw [mkN, mkD, if_pos hm, if_pos hm]
  refine ⟨h.1, h.2, ?_⟩
  obtain ⟨k, -, e1, e2, -, -⟩ := red p q h.1
  generalize loN p q = P at *
  generalize loD p q = Q at *
  rw [e1, e2, Int.mul_right_comm, Int.mul_assoc]
theorem mk_small {n d : Int} (hn : -1000000000 ≤ n ∧ n ≤ 1000000000) (hd : 1 ≤ d ∧ d ≤ 1000000000) : mkB n d = true := by
  obtain ⟨k, hk, e1, e2, hQ, hG⟩ := red n d (by omega)
  have hk1 : 1 ≤ k.natAbs := by omega
  have l1 : (loN n d).natAbs ≤ n.natAbs := by
    have : n.natAbs = (loN n d).natAbs * k.natAbs := by rw [← Int.natAbs_mul, ← e1]
    rw [this]; exact Nat.le_mul_of_pos_right _ hk1
  have l2 : (loD n d).natAbs ≤ d.natAbs := by
    have : d.natAbs = (loD n d).natAbs * k.natAbs := by rw [← Int.natAbs_mul, ← e2]
    rw [this]; exact Nat.le_mul_of_pos_right _ hk1
  have hf : frB (loN n d) (loD n d) = true := by
    unfold frB gI
    rw [(inB_iff _ _ _).2 (by omega), (inB_iff _ _ _).2 (by omega), hG]
    rfl
  unfold mkB
  rw [hf]
  simp; omega
theorem mul_ne {a b : Int} (ha : 0 < a) (hb : 0 < b) : a * b ≠ 0 := Int.ne_of_gt (Int.mul_pos ha hb)
/-- A sum can be taken back. -/
theorem sum_back {a b c d : Int} (h1 : frB a b = true) (h2 : frB c d = true) (hm : mkB (a * d + c * b) (b * d) = true) :
    twoB (mkN (a * d + c * b) (b * d)) (mkD (a * d + c * b) (b * d)) c d = true ∧ mkB (mkN (a * d + c * b) (b * d) * d - c * mkD (a * d + c * b) (b * d)) (mkD (a * d + c * b) (b * d) * d) = true ∧
    mkN (mkN (a * d + c * b) (b * d) * d - c * mkD (a * d + c * b) (b * d)) (mkD (a * d + c * b) (b * d) * d) = a ∧ mkD (mkN (a * d + c * b) (b * d) * d - c * mkD (a * d + c * b) (b * d)) (mkD (a * d + c * b) (b * d) * d) = b := by
  obtain ⟨hq, hf, he⟩ := mk_parts hm
  generalize mkN (a * d + c * b) (b * d) = s at *
  generalize mkD (a * d + c * b) (b * d) = t at *
  have hd := (frB_pos h2).1
  have hb := (frB_pos h1).1
  have ht := (frB_pos hf).1
  refine ⟨by unfold twoB; rw [hf, h2]; rfl, mk_uniq h1 (mul_ne ht hd) ?_⟩
  refine Int.eq_of_mul_eq_mul_right (Int.ne_of_gt hd) ?_
  grind
/-- A product can be divided again. -/
theorem product_back {a b c d : Int} (h1 : frB a b = true) (h2 : frB c d = true) (hc : c ≠ 0) (hm : mkB (a * c) (b * d) = true) :
    twoB (mkN (a * c) (b * d)) (mkD (a * c) (b * d)) c d = true ∧ mkB (mkN (a * c) (b * d) * d) (mkD (a * c) (b * d) * c) = true ∧
    mkN (mkN (a * c) (b * d) * d) (mkD (a * c) (b * d) * c) = a ∧ mkD (mkN (a * c) (b * d) * d) (mkD (a * c) (b * d) * c) = b := by
  obtain ⟨hq, hf, he⟩ := mk_parts hm
  generalize mkN (a * c) (b * d) = s at *
  generalize mkD (a * c) (b * d) = t at *
  have ht := (frB_pos hf).1
  refine ⟨by unfold twoB; rw [hf, h2]; rfl, mk_uniq h1 (Int.mul_ne_zero (Int.ne_of_gt ht) hc) ?_⟩
  grind
/-- The sign of a difference is the order. -/
theorem difference_sign {a b c d : Int} (h1 : frB a b = true) (h2 : frB c d = true) (hm : mkB (a * d - c * b) (b * d) = true) :
    (cmpI (a * d) (c * b) < 0 ↔ mkN (a * d - c * b) (b * d) < 0) ∧ (cmpI (a * d) (c * b) = 0 ↔ mkN (a * d - c * b) (b * d) = 0) := by
  obtain ⟨hq, hf, he⟩ := mk_parts hm
  generalize mkN (a * d - c * b) (b * d) = s at *
  generalize mkD (a * d - c * b) (b * d) = t at *
  have ht := (frB_pos hf).1
  have hbd : 0 < b * d := Int.mul_pos (frB_pos h1).1 (frB_pos h2).1
  generalize b * d = q at *
  have hx : ∀ x : Int, x = a * d - c * b → ((x < 0 ↔ s < 0) ∧ (x = 0 ↔ s = 0)) := fun x hx => by
    rw [← hx] at he
    rcases Int.lt_trichotomy x 0 with h | h | h
    · have l1 := Int.mul_neg_of_neg_of_pos h ht
      have : s < 0 := by
        by_cases h' : s < 0
        · exact h'
        · have := Int.mul_nonneg (show 0 ≤ s by omega) (Int.le_of_lt hbd); omega
      omega
    · subst h
      rw [Int.zero_mul] at he
      have : s = 0 := by
        rcases Int.mul_eq_zero.1 he.symm with h' | h'
        · exact h'
        · omega
      omega
    · have l1 := Int.mul_pos h ht
      have : 0 < s := by
        by_cases h' : 0 < s
        · exact h'
        · have := Int.mul_nonpos_of_nonpos_of_nonneg (show s ≤ 0 by omega) (Int.le_of_lt hbd); omega
      omega
  have := hx _ rfl
  unfold cmpI
  generalize a * d = u at *
  generalize c * b = v at *
  split
  · omega
  · split <;> omega
end Go.Proofs.YtinijfkidjakpaaDoor
