/-
  Roots of a polynomial: that they increase, and what their times add up to: plain mathematics (for FnRoots).
  No condition: corners as the model finds them.
-/
import Derived.Test.YtklcildhfcomnaaGreatDoorRootN
namespace Go.Proofs.YtklcildhfcomnaaGreatDoor
set_option linter.unusedSimpArgs false
set_option linter.unusedVariables false
open Go.RowKit

theorem mk_cross {p q p' q' : Int} (hq : 1 ≤ q) (hq' : 1 ≤ q') (h : mkB p q = true) (h' : mkB p' q' = true) (hlt : p * q' < p' * q) : mkN p q * mkD p' q' < mkN p' q' * mkD p q := by
  obtain ⟨-, f1, e1⟩ := mk_parts h
  obtain ⟨-, f2, e2⟩ := mk_parts h'
  have d1 := (frB_pos f1).1
  have d2 := (frB_pos f2).1
  generalize mkN p q = N at *
  generalize mkD p q = D at *
  generalize mkN p' q' = N' at *
  generalize mkD p' q' = D' at *
  have hc : 0 < q * q' := Int.mul_pos (by omega) (by omega)
  have hd : 0 < D * D' := Int.mul_pos (by omega) (by omega)
  have h3 : p * q' * (D * D') < p' * q * (D * D') := Int.mul_lt_mul_of_pos_right hlt hd
  refine Int.lt_of_mul_lt_mul_right (a := q * q') ?_ (by omega)
  have x1 : N * D' * (q * q') = p * q' * (D * D') := by
    calc N * D' * (q * q') = (N * q) * (q' * D') := by simp [Int.mul_comm, Int.mul_left_comm]
      _ = (p * D) * (q' * D') := by rw [e1]
      _ = p * q' * (D * D') := by simp [Int.mul_comm, Int.mul_left_comm]
  have x2 : N' * D * (q * q') = p' * q * (D * D') := by
    calc N' * D * (q * q') = (N' * q') * (q * D) := by simp [Int.mul_comm, Int.mul_left_comm]
      _ = (p' * D') * (q * D) := by rw [e2]
      _ = p' * q * (D * D') := by simp [Int.mul_comm, Int.mul_left_comm]
  rw [x1, x2]; exact h3
/-- A root is less than another one. -/
def LtR (r s : Rt) : Prop := r.1 * s.2.1 < s.1 * r.2.1
theorem LtR.trans {r s t : Rt} (hr : 0 < r.2.1) (hs : 0 < s.2.1) (ht : 0 < t.2.1) (h : LtR r s) (h' : LtR s t) : LtR r t := by
  unfold LtR at *
  have a1 := Int.mul_lt_mul_of_pos_right h ht
  have a2 := Int.mul_lt_mul_of_pos_right h' hr
  refine Int.lt_of_mul_lt_mul_right (a := s.2.1) ?_ (by omega)
  have e1 : r.1 * t.2.1 * s.2.1 = r.1 * s.2.1 * t.2.1 := by simp [Int.mul_comm, Int.mul_left_comm]
  have e2 : t.1 * r.2.1 * s.2.1 = t.1 * s.2.1 * r.2.1 := by simp [Int.mul_comm, Int.mul_left_comm]
  have e3 : s.1 * t.2.1 * r.2.1 = s.1 * r.2.1 * t.2.1 := by simp [Int.mul_comm, Int.mul_left_comm]
  rw [e1, e2]
  rw [e3] at a2
  exact Int.lt_trans a1 a2
theorem Corn.rt_pos {zs C : List Int} (h : Corn zs C) {n : Nat} (hn : n + 1 < C.length) : 0 < (rootAt zs C n).2.1 := by
  have := (frB_pos (h.root hn).2.fr).1; omega
theorem Corn.rt_up {zs C : List Int} (h : Corn zs C) {n : Nat} (hn : n + 2 < C.length) : LtR (rootAt zs C (n + 1)) (rootAt zs C n) := by
  have u1 := h.up n (by omega)
  have u2 := h.up (n + 1) (by omega)
  have hc := of_decide_eq_true (h.cor n hn)
  refine mk_cross (by omega) (by omega) (h.root (n := n + 1) (by omega)).1 (h.root (n := n) (by omega)).1 ?_
  rw [show n + 1 + 1 = n + 2 by omega] at *
  generalize pv zs (gd C n) = A at *
  generalize pv zs (gd C (n + 1)) = B at *
  generalize pv zs (gd C (n + 2)) = D at *
  simp only [Int.mul_sub, Int.sub_mul] at hc ⊢
  have e1 := Int.mul_comm A (gd C n)
  omega
theorem Corn.rts_lt {zs C : List Int} (h : Corn zs C) : ∀ d, d + 2 ≤ C.length → ∀ r ∈ rtsL zs C d, LtR r (rootAt zs C (C.length - 2 - d))
  | 0, _, r, hr => by simp [rtsL] at hr
  | d + 1, hd, r, hr => by
    have hup := h.rt_up (n := C.length - 2 - (d + 1)) (by omega)
    rw [show C.length - 2 - (d + 1) + 1 = C.length - 2 - d by omega] at hup
    simp only [rtsL, List.mem_append, List.mem_singleton] at hr
    rcases hr with hr | rfl
    · have ih := h.rts_lt d (by omega) r hr
      have hok := h.rts d (by omega) r hr
      exact ih.trans (by have := (frB_pos hok.fr).1; omega) (h.rt_pos (by omega)) (h.rt_pos (by omega)) hup
    · exact hup
theorem Corn.rts_pw {zs C : List Int} (h : Corn zs C) : ∀ d, d + 1 ≤ C.length → (rtsL zs C d).Pairwise LtR
  | 0, _ => List.Pairwise.nil
  | d + 1, hd => by
    rw [rtsL, List.pairwise_append]
    exact ⟨h.rts_pw d (by omega), by simp, fun r hr s hs => by simp at hs; subst hs; exact h.rts_lt d (by omega) r hr⟩
theorem roots_pw {zs : List Int} (h : poB zs = true) : (rootsL zs).Pairwise LtR := (corL_ok h).rts_pw _ (by have := (corL_ok h).pos; omega)
/-- Neighbours, as the law compares them. -/
theorem roots_up {zs : List Int} (h : poB zs = true) {i : Nat} (hi : i + 1 < (rootsL zs).length) : cmpI ((rd (rootsL zs) i).1 * (rd (rootsL zs) (i + 1)).2.1) ((rd (rootsL zs) (i + 1)).1 * (rd (rootsL zs) i).2.1) = -1 := by
  have hp := List.pairwise_iff_getElem.1 (roots_pw h) i (i + 1) (by omega) hi (by omega)
  rw [← rd_eq _ i (by omega), ← rd_eq _ (i + 1) hi] at hp
  unfold LtR at hp
  unfold cmpI
  rw [if_pos hp]
theorem tmO_at : ∀ {rs : List Rt}, rs.Pairwise LtR → ∀ i, i < rs.length → tmO (rd rs i).1 (rd rs i).2.1 rs = (rd rs i).2.2
  | [], _, i, hi => by simp at hi
  | r :: t, hp, 0, _ => by
    have e : rd (r :: t) 0 = r := rfl
    rw [e, tmO, if_pos (by simp)]
  | r :: t, hp, i + 1, hi => by
    rw [List.pairwise_cons] at hp
    have e : rd (r :: t) (i + 1) = rd t i := rfl
    have hi' : i < t.length := by simpa using hi
    have hlt := hp.1 _ (rd_mem hi')
    rw [e, tmO, if_neg (by
      intro hc
      simp only [Bool.and_eq_true, beq_iff_eq] at hc
      unfold LtR at hlt
      rw [hc.1, hc.2] at hlt
      omega)]
    exact tmO_at hp.2 i hi'
/-- The times of a root that is one. -/
theorem tmR_root {zs : List Int} (h : poB zs = true) {i : Nat} (hi : i < (rootsL zs).length) : tmB zs (rd (rootsL zs) i).1 (rd (rootsL zs) i).2.1 = true ∧ tmR zs (rd (rootsL zs) i).1 (rd (rootsL zs) i).2.1 = (rd (rootsL zs) i).2.2 := by
  have hb : tmB zs (rd (rootsL zs) i).1 (rd (rootsL zs) i).2.1 = true := by
    unfold tmB
    rw [h, (roots_ok h _ (rd_mem hi)).fr]; rfl
  exact ⟨hb, by rw [tmR_yes hb]; exact tmO_at (roots_pw h) i hi⟩
/-- The times of the first k roots. -/
def tmsS (rs : List Rt) (k : Nat) : Int := ((rs.take k).map fun r => r.2.2).foldl (· + ·) 0
theorem tmsS_next {rs : List Rt} {k : Nat} (hk : k < rs.length) : tmsS rs (k + 1) = tmsS rs k + (rd rs k).2.2 := by
  unfold tmsS
  rw [List.take_succ_eq_append_getElem hk, List.map_append, List.foldl_append, rd_eq rs k hk]; rfl
theorem Corn.tms_sum {zs C : List Int} (h : Corn zs C) : ∀ d, d + 1 ≤ C.length → ((rtsL zs C d).map fun r => r.2.2).foldl (· + ·) 0 = gd C (C.length - 1) - gd C (C.length - 1 - d)
  | 0, _ => by simp [rtsL]
  | d + 1, hd => by
    rw [rtsL, List.map_append, List.foldl_append, h.tms_sum d (by omega)]
    simp only [List.map_cons, List.map_nil, List.foldl_cons, List.foldl_nil, rootAt]
    rw [show C.length - 2 - d + 1 = C.length - 1 - d by omega, show C.length - 1 - (d + 1) = C.length - 2 - d by omega]
    omega
theorem roots_sum {zs : List Int} (h : poB zs = true) : tmsS (rootsL zs) (rootsL zs).length = gd (corL zs) ((corL zs).length - 1) - gd (corL zs) 0 := by
  have hc := corL_ok h
  unfold tmsS
  rw [List.take_length]
  unfold rootsL
  rw [hc.tms_sum _ (by have := hc.pos; omega)]
  congr 2; omega
end Go.Proofs.YtklcildhfcomnaaGreatDoor
