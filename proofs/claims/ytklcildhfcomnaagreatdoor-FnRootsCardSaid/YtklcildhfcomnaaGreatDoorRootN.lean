/-
  Roots, heights and values of a polynomial, and polynomials of given roots: plain mathematics.
  No condition: lists of integers.
-/
import Derived.Test.YtklcildhfcomnaaGreatDoorRootM
import Derived.Test.YtklcildhfcomnaaGreatDoorFrac
namespace Go.Proofs.YtklcildhfcomnaaGreatDoor
set_option linter.unusedSimpArgs false
set_option linter.unusedVariables false
open Go.RowKit

/-! ### Fractions in lowest terms, and what they were made of -/
theorem mul_cmp {x y c d n m : Int} (hc : 0 < c) (hd : 0 < d) (e1 : x * c = n * d) (e2 : y * c = m * d) : cmpI x y = cmpI n m := by
  have lt : ∀ {x y n m : Int}, x * c = n * d → y * c = m * d → (x < y ↔ n < m) := fun {x y n m} e1 e2 => by
    constructor
    · intro h
      have := Int.mul_lt_mul_of_pos_right h hc
      rw [e1, e2] at this
      exact Int.lt_of_mul_lt_mul_right this (by omega)
    · intro h
      have := Int.mul_lt_mul_of_pos_right h hd
      rw [← e1, ← e2] at this
      exact Int.lt_of_mul_lt_mul_right this (by omega)
  have l1 := lt e1 e2
  have l2 := lt e2 e1
  unfold cmpI
  split <;> split <;> (try split) <;> (try split) <;> first | rfl | omega
/-- The order of a whole number and a fraction does not ask for lowest terms. -/
theorem cmp_mk {p n d : Int} (hd : 1 ≤ d) (hm : mkB n d = true) : cmpI (p * mkD n d) (mkN n d) = cmpI (p * d) n := by
  obtain ⟨-, hf, he⟩ := mk_parts hm
  have hD := (frB_pos hf).1
  exact mul_cmp (c := d) (d := mkD n d) (by omega) hD (Int.mul_right_comm _ _ _) he.symm
theorem floor_uniq {n d q : Int} (hd : 1 ≤ d) (h1 : q * d ≤ n) (h2 : n < q * d + d) : floorI n d = q := by
  obtain ⟨g1, g2⟩ := floor_spec (n := n) hd
  have a : floorI n d < q + 1 := mul_lt_of hd (by rw [Int.add_mul]; omega)
  have b : q < floorI n d + 1 := mul_lt_of hd (by rw [Int.add_mul]; omega)
  omega
theorem ceil_mk {n d : Int} (hd : 1 ≤ d) (hm : mkB n d = true) : -floorI (-mkN n d) (mkD n d) = -floorI (-n) d := by
  obtain ⟨-, hf, he⟩ := mk_parts hm
  have hD := (frB_pos hf).1
  obtain ⟨g1, g2⟩ := floor_spec (n := -mkN n d) (d := mkD n d) (by omega)
  generalize floorI (-mkN n d) (mkD n d) = q at *
  generalize mkN n d = N at *
  generalize mkD n d = D at *
  rw [floor_uniq (n := -n) (q := q) hd]
  · refine Int.le_of_mul_le_mul_right (a := D) ?_ hD
    have := Int.mul_le_mul_of_nonneg_right g1 (show 0 ≤ d by omega)
    rw [Int.neg_mul, he]
    rw [Int.neg_mul, Int.mul_right_comm] at this
    exact this
  · refine Int.lt_of_mul_lt_mul_right (a := D) ?_ (Int.le_of_lt hD)
    have := Int.mul_lt_mul_of_pos_right g2 (show 0 < d by omega)
    have e : (q * d + d) * D = (q * D + D) * d := by grind
    rw [e, Int.neg_mul, he]
    rw [Int.neg_mul] at this
    exact this
theorem mk_whole {n : Int} (h : -1000000000 ≤ n ∧ n ≤ 1000000000) : frB n 1 = true ∧ mkB n 1 = true ∧ mkN n 1 = n ∧ mkD n 1 = 1 := by
  have hf : frB n 1 = true := by
    unfold frB gI
    rw [(inB_iff _ _ _).2 (by omega), (inB_iff _ _ _).2 (by omega)]
    simp
  obtain ⟨h1, h2, h3⟩ := mk_uniq hf (p := n) (q := 1) (by omega) rfl
  exact ⟨hf, h1, h2, h3⟩
theorem frB_one {n : Int} (h : -1000000000 ≤ n ∧ n ≤ 1000000000) : frB n 1 = true := (mk_whole h).1

/-! ### Corners by heights -/
/-- The height, at j, of the line between the points of i and k: its parts. -/
def lhN (zs : List Int) (i j k : Int) : Int := pv zs i * (k - j) + pv zs k * (j - i)
theorem cor_cmp {zs : List Int} {i j k : Int} (hik : i < k) (hm : mkB (lhN zs i j k) (k - i) = true) : decide (cmpI (pv zs j * mkD (lhN zs i j k) (k - i)) (mkN (lhN zs i j k) (k - i)) < 0) = corB zs i j k := by
  rw [cmp_mk (by omega) hm]
  unfold corB
  rw [decide_eq_decide]
  have e : (pv zs j * (k - i) < lhN zs i j k) ↔ ((pv zs j - pv zs i) * (k - i) < (pv zs k - pv zs i) * (j - i)) := by
    unfold lhN
    generalize pv zs i = a
    generalize pv zs j = b
    generalize pv zs k = c
    simp only [Int.mul_sub, Int.sub_mul]
    omega
  rw [← e]
  unfold cmpI
  split
  · simp; assumption
  · split <;> simp <;> omega
theorem lh_bd {zs : List Int} {i j k : Int} (h0 : 0 ≤ i) (h1 : i ≤ j) (h2 : j ≤ k) (h3 : k ≤ 12) (hi : -1000000 ≤ pv zs i ∧ pv zs i ≤ 1000000) (hk : -1000000 ≤ pv zs k ∧ pv zs k ≤ 1000000) :
    (-12000000 ≤ pv zs i * (k - j) ∧ pv zs i * (k - j) ≤ 12000000) ∧ (-12000000 ≤ pv zs k * (j - i) ∧ pv zs k * (j - i) ≤ 12000000) ∧ (-24000000 ≤ lhN zs i j k ∧ lhN zs i j k ≤ 24000000) := by
  have m1 := mul12 (a := pv zs i) (d := k - j) (M := 1000000) hi (by omega) (by omega)
  have m2 := mul12 (a := pv zs k) (d := j - i) (M := 1000000) hk (by omega) (by omega)
  unfold lhN
  omega

/-! ### Heights -/
def hgN (zs C : List Int) (j : Int) : Int := mkN (rawN zs C j) (rawD C j)
def hgD (zs C : List Int) (j : Int) : Int := mkD (rawN zs C j) (rawD C j)
/-- The first m heights, from the first corner on. -/
def hgtL (zs C : List Int) (m : Nat) : List (Int × Int) := (List.range m).map fun (k : Nat) => (hgN zs C (gd C 0 + (k : Int)), hgD zs C (gd C 0 + (k : Int)))
/-- How many there are. -/
def hgM (zs C : List Int) : Nat := (zs.length - gd C 0).toNat
theorem hgtL_len (zs C : List Int) (m : Nat) : (hgtL zs C m).length = m := by simp [hgtL]
theorem hgtL_next (zs C : List Int) (m : Nat) : hgtL zs C (m + 1) = hgtL zs C m ++ [(hgN zs C (gd C 0 + (m : Int)), hgD zs C (gd C 0 + (m : Int)))] := by simp [hgtL, List.range_succ]
theorem Corn.hg {zs C : List Int} (h : Corn zs C) {j : Int} (h0 : gd C 0 ≤ j) (h1 : j < zs.length) : mkB (rawN zs C j) (rawD C j) = true ∧ frB (hgN zs C j) (hgD zs C j) = true := by
  obtain ⟨hn, hd⟩ := h.raw h0 h1
  have hm := mk_small (n := rawN zs C j) (d := rawD C j) (by omega) (by omega)
  exact ⟨hm, (mk_parts hm).2.1⟩
theorem Corn.hg_first {zs C : List Int} (h : Corn zs C) : hgN zs C (gd C 0) = pv zs (gd C 0) ∧ hgD zs C (gd C 0) = 1 := by
  obtain ⟨e1, e2⟩ := raw_first zs C h.pos
  have hp := (h.pt 0 h.pos).2.2
  unfold hgN hgD
  rw [e1, e2]
  exact (mk_whole (by omega)).2.2
theorem Corn.hg_at {zs C : List Int} (h : Corn zs C) {n : Nat} (hn : n + 1 < C.length) {j : Int} (h0 : gd C n < j) (h1 : j ≤ gd C (n + 1)) :
    hgN zs C j = mkN (lhN zs (gd C n) j (gd C (n + 1))) (gd C (n + 1) - gd C n) ∧ hgD zs C j = mkD (lhN zs (gd C n) j (gd C (n + 1))) (gd C (n + 1) - gd C n) ∧ mkB (lhN zs (gd C n) j (gd C (n + 1))) (gd C (n + 1) - gd C n) = true := by
  obtain ⟨e1, e2⟩ := raw_at zs C n h.up hn h0 h1
  have hc := up_le h.up (n := 0) (m := n) (by omega) (by omega)
  have hp := h.pt (n + 1) hn
  have hm := (h.hg (j := j) (by omega) (by omega)).1
  unfold hgN hgD lhN
  rw [e1, e2] at hm ⊢
  exact ⟨rfl, rfl, hm⟩
theorem Corn.nd_cmp {zs C : List Int} (h : Corn zs C) {j : Int} (h0 : gd C 0 ≤ j) (h1 : j < zs.length) : decide (0 < cmpI (pv zs j * hgD zs C j) (hgN zs C j)) = ndB zs C j := by
  obtain ⟨hn, hd⟩ := h.raw h0 h1
  unfold hgN hgD
  rw [cmp_mk hd.1 (h.hg h0 h1).1]
  unfold ndB cmpI
  rw [decide_eq_decide]
  split
  · simp; omega
  · split <;> simp <;> omega
theorem Corn.low_hg {zs C : List Int} (h : Corn zs C) {j : Int} (h0 : gd C 0 ≤ j) (h1 : j < zs.length) : -floorI (-hgN zs C j) (hgD zs C j) = lowF zs C j := by
  obtain ⟨hn, hd⟩ := h.raw h0 h1
  unfold hgN hgD lowF
  rw [if_pos ⟨h0, h1⟩, ceil_mk hd.1 (h.hg h0 h1).1]

/-! ### Roots -/
abbrev Rt := Int × Int × Int
def rootAt (zs C : List Int) (n : Nat) : Rt := (mkN (pv zs (gd C n) - pv zs (gd C (n + 1))) (gd C (n + 1) - gd C n), mkD (pv zs (gd C n) - pv zs (gd C (n + 1))) (gd C (n + 1) - gd C n), gd C (n + 1) - gd C n)
/-- The last d of them, the least one first. -/
def rtsL (zs C : List Int) : Nat → List Rt
  | 0 => []
  | d + 1 => rtsL zs C d ++ [rootAt zs C (C.length - 2 - d)]
def rootsL (zs : List Int) : List Rt := rtsL zs (corL zs) ((corL zs).length - 1)
def rootsR (zs : List Int) : List Rt := if poB zs = true then rootsL zs else []
theorem rootsR_yes {zs : List Int} (h : poB zs = true) : rootsR zs = rootsL zs := if_pos h
theorem rootsR_no {zs : List Int} (h : poB zs = false) : rootsR zs = [] := if_neg (by simp [h])
theorem rtsL_len (zs C : List Int) : ∀ d, (rtsL zs C d).length = d
  | 0 => rfl
  | d + 1 => by simp [rtsL, rtsL_len zs C d]
theorem rootsL_len {zs : List Int} (h : poB zs = true) : (rootsL zs).length ≤ 12 := by
  have := (corL_ok h).le
  unfold rootsL; rw [rtsL_len]; omega
theorem rootsR_len (zs : List Int) : (rootsR zs).length ≤ 12 := by
  unfold rootsR; split
  · rename_i h; exact rootsL_len h
  · simp
structure RtOk (r : Rt) : Prop where
  fr : frB r.1 r.2.1 = true
  times : 1 ≤ r.2.2 ∧ r.2.2 ≤ 12
theorem Corn.root {zs C : List Int} (h : Corn zs C) {n : Nat} (hn : n + 1 < C.length) : mkB (pv zs (gd C n) - pv zs (gd C (n + 1))) (gd C (n + 1) - gd C n) = true ∧ RtOk (rootAt zs C n) := by
  have h1 := h.pt n (by omega)
  have h2 := h.pt (n + 1) hn
  have h3 := h.up n hn
  have hz := h.zl
  have hm := mk_small (n := pv zs (gd C n) - pv zs (gd C (n + 1))) (d := gd C (n + 1) - gd C n) (by omega) (by omega)
  exact ⟨hm, (mk_parts hm).2.1, show 1 ≤ gd C (n + 1) - gd C n ∧ gd C (n + 1) - gd C n ≤ 12 by omega⟩
theorem Corn.rts {zs C : List Int} (h : Corn zs C) : ∀ d, d + 1 ≤ C.length → ∀ r ∈ rtsL zs C d, RtOk r
  | 0, _, r, hr => by simp [rtsL] at hr
  | d + 1, hd, r, hr => by
    simp only [rtsL, List.mem_append, List.mem_singleton] at hr
    rcases hr with hr | rfl
    · exact h.rts d (by omega) r hr
    · exact (h.root (n := C.length - 2 - d) (by omega)).2
theorem roots_ok {zs : List Int} (h : poB zs = true) : ∀ r ∈ rootsL zs, RtOk r := by
  have hc := corL_ok h
  exact hc.rts _ (by have := hc.pos; omega)
/-- The element with a number. -/
def rd (rs : List Rt) (k : Nat) : Rt := rs.getD k (0, 0, 0)
theorem rd_eq (rs : List Rt) (k : Nat) (hk : k < rs.length) : rd rs k = rs[k] := by unfold rd; rw [List.getD_eq_getElem?_getD, List.getElem?_eq_getElem hk]; rfl
theorem rd_mem {rs : List Rt} {k : Nat} (hk : k < rs.length) : rd rs k ∈ rs := by rw [rd_eq rs k hk]; exact List.getElem_mem hk
theorem drop_rd {rs : List Rt} {k : Nat} (hk : k < rs.length) : rs.drop k = rd rs k :: rs.drop (k + 1) := by rw [rd_eq rs k hk]; exact List.drop_eq_getElem_cons hk
theorem drop_gd {zs : List Int} {k : Nat} (hk : k < zs.length) : zs.drop k = gd zs k :: zs.drop (k + 1) := by rw [gd_eq zs k hk]; exact List.drop_eq_getElem_cons hk
/-- How often a fraction is a root. -/
def tmO (a b : Int) : List Rt → Int
  | [] => 0
  | r :: t => if (r.1 == a && r.2.1 == b) = true then r.2.2 else tmO a b t
def tmB (zs : List Int) (a b : Int) : Bool := poB zs && frB a b
def tmR (zs : List Int) (a b : Int) : Int := if tmB zs a b = true then tmO a b (rootsL zs) else 0
theorem tmR_yes {zs : List Int} {a b : Int} (h : tmB zs a b = true) : tmR zs a b = tmO a b (rootsL zs) := if_pos h
theorem tmR_no {zs : List Int} {a b : Int} (h : tmB zs a b = false) : tmR zs a b = 0 := if_neg (by simp [h])
theorem tmO_end (a b : Int) (rs : List Rt) (k : Nat) (hk : ¬ k < rs.length) : tmO a b (rs.drop k) = 0 := by rw [List.drop_eq_nil_of_le (by omega)]; rfl
theorem tmO_hit {a b : Int} {rs : List Rt} {k : Nat} (hk : k < rs.length) (h : ((rd rs k).1 == a && (rd rs k).2.1 == b) = true) : tmO a b (rs.drop k) = (rd rs k).2.2 := by rw [drop_rd hk, tmO, if_pos h]
theorem tmO_miss {a b : Int} {rs : List Rt} {k : Nat} (hk : k < rs.length) (h : ((rd rs k).1 == a && (rd rs k).2.1 == b) = false) : tmO a b (rs.drop k) = tmO a b (rs.drop (k + 1)) := by rw [drop_rd hk, tmO, if_neg (by simp [h])]

/-! ### So many times a fraction, added at once -/
theorem mk_none {n d : Int} (h : mkB n d = false) : mkN n d = 0 ∧ mkD n d = 0 := ⟨if_neg (by simp [h]), if_neg (by simp [h])⟩
def adB (s t k a b : Int) : Bool := mkB (k * a) (1 * b) && mkB (s * mkD (k * a) (1 * b) + mkN (k * a) (1 * b) * t) (t * mkD (k * a) (1 * b))
def adN (s t k a b : Int) : Int := okF (mkB (k * a) (1 * b)) (mkN (s * mkD (k * a) (1 * b) + mkN (k * a) (1 * b) * t) (t * mkD (k * a) (1 * b)))
def adD (s t k a b : Int) : Int := okF (mkB (k * a) (1 * b)) (mkD (s * mkD (k * a) (1 * b) + mkN (k * a) (1 * b) * t) (t * mkD (k * a) (1 * b)))
theorem ad_parts {s t k a b : Int} (h : adB s t k a b = true) : mkB (k * a) (1 * b) = true ∧ mkB (s * mkD (k * a) (1 * b) + mkN (k * a) (1 * b) * t) (t * mkD (k * a) (1 * b)) = true ∧ frB (mkN (k * a) (1 * b)) (mkD (k * a) (1 * b)) = true ∧ frB (adN s t k a b) (adD s t k a b) = true := by
  unfold adB at h
  rw [Bool.and_eq_true] at h
  refine ⟨h.1, h.2, (mk_parts h.1).2.1, ?_⟩
  unfold adN adD okF
  rw [if_pos h.1, if_pos h.1]
  exact (mk_parts h.2).2.1
theorem ad_no {s t k a b : Int} (h : adB s t k a b = false) : adN s t k a b = 0 ∧ adD s t k a b = 0 := by
  unfold adN adD okF
  by_cases h1 : mkB (k * a) (1 * b) = true
  · have h2 : mkB (s * mkD (k * a) (1 * b) + mkN (k * a) (1 * b) * t) (t * mkD (k * a) (1 * b)) = false := by
      unfold adB at h; rw [h1] at h; simpa using h
    rw [if_pos h1, if_pos h1]
    exact mk_none h2
  · rw [if_neg h1, if_neg h1]; exact ⟨rfl, rfl⟩
/-- A whole number, so many times, added to a whole number. -/
theorem ad_whole {s k a : Int} (h1 : -1000000000 ≤ k * a ∧ k * a ≤ 1000000000) (h2 : -1000000000 ≤ s + k * a ∧ s + k * a ≤ 1000000000) : adB s 1 k a 1 = true ∧ adN s 1 k a 1 = s + k * a ∧ adD s 1 k a 1 = 1 := by
  obtain ⟨-, m1, m2, m3⟩ := mk_whole h1
  obtain ⟨-, n1, n2, n3⟩ := mk_whole h2
  unfold adB adN adD okF
  simp only [Int.mul_one, m1, m2, m3, n1, n2, n3, if_true, Bool.and_self, and_self]

/-! ### Values at fractions -/
/-- The less of two fractions. -/
def mnN (s t u v : Int) : Int := if s * v ≤ u * t then s else u
def mnD (s t u v : Int) : Int := if s * v ≤ u * t then t else v
def vfF (zs : List Int) (a b : Int) : List Int → Int → Int → Bool × Int × Int
  | [], s, t => (true, s, t)
  | e :: l, s, t => if adB (pv zs e) 1 e a b = true then
      (if t = 0 then vfF zs a b l (adN (pv zs e) 1 e a b) (adD (pv zs e) 1 e a b) else vfF zs a b l (mnN s t (adN (pv zs e) 1 e a b) (adD (pv zs e) 1 e a b)) (mnD s t (adN (pv zs e) 1 e a b) (adD (pv zs e) 1 e a b)))
      else (false, 0, 0)
theorem mn_ok {s t u v : Int} (h1 : frB s t = true) (h2 : frB u v = true) : frB (mnN s t u v) (mnD s t u v) = true := by
  unfold mnN mnD; split <;> assumption
def vaR (zs : List Int) (a b : Int) : Bool × Int × Int := if tmB zs a b = true then vfF zs a b (pts zs zs.length) 0 0 else (false, 0, 0)
theorem vaR_yes {zs : List Int} {a b : Int} (h : tmB zs a b = true) : vaR zs a b = vfF zs a b (pts zs zs.length) 0 0 := if_pos h
theorem vaR_no {zs : List Int} {a b : Int} (h : tmB zs a b = false) : vaR zs a b = (false, 0, 0) := if_neg (by simp [h])
theorem vf_end (zs : List Int) (a b : Int) (ps : List Int) (k : Nat) (hk : ¬ k < ps.length) (s t : Int) : vfF zs a b (ps.drop k) s t = (true, s, t) := by rw [List.drop_eq_nil_of_le (by omega)]; rfl
theorem vf_bad {zs : List Int} {a b : Int} {ps : List Int} {k : Nat} (hk : k < ps.length) {s t : Int} (h : adB (pv zs (gd ps k)) 1 (gd ps k) a b = false) : vfF zs a b (ps.drop k) s t = (false, 0, 0) := by rw [drop_gd hk, vfF, if_neg (by simp [h])]
theorem vf_first {zs : List Int} {a b : Int} {ps : List Int} {k : Nat} (hk : k < ps.length) {s : Int} (h : adB (pv zs (gd ps k)) 1 (gd ps k) a b = true) :
    vfF zs a b (ps.drop k) s 0 = vfF zs a b (ps.drop (k + 1)) (adN (pv zs (gd ps k)) 1 (gd ps k) a b) (adD (pv zs (gd ps k)) 1 (gd ps k) a b) := by rw [drop_gd hk, vfF, if_pos h, if_pos rfl]
theorem vf_more {zs : List Int} {a b : Int} {ps : List Int} {k : Nat} (hk : k < ps.length) {s t : Int} (ht : t ≠ 0) (h : adB (pv zs (gd ps k)) 1 (gd ps k) a b = true) :
    vfF zs a b (ps.drop k) s t = vfF zs a b (ps.drop (k + 1)) (mnN s t (adN (pv zs (gd ps k)) 1 (gd ps k) a b) (adD (pv zs (gd ps k)) 1 (gd ps k) a b)) (mnD s t (adN (pv zs (gd ps k)) 1 (gd ps k) a b) (adD (pv zs (gd ps k)) 1 (gd ps k) a b)) := by rw [drop_gd hk, vfF, if_pos h, if_neg ht]

/-! ### Values by roots -/
def lsN (r : Rt) (x : Int) : Int := if r.1 ≤ x * r.2.1 then r.1 else x
def lsD (r : Rt) (x : Int) : Int := if r.1 ≤ x * r.2.1 then r.2.1 else 1
def vbF (x : Int) : List Rt → Int → Int → Bool × Int × Int
  | [], s, t => (true, s, t)
  | r :: l, s, t => if adB s t r.2.2 (lsN r x) (lsD r x) = true then vbF x l (adN s t r.2.2 (lsN r x) (lsD r x)) (adD s t r.2.2 (lsN r x) (lsD r x)) else (false, 0, 0)
theorem ls_ok {r : Rt} {x : Int} (h : RtOk r) (hx : -1000000 ≤ x ∧ x ≤ 1000000) : frB (lsN r x) (lsD r x) = true := by
  unfold lsN lsD; split
  · exact h.fr
  · exact frB_one (by omega)
theorem vb_end (x : Int) (rs : List Rt) (k : Nat) (hk : ¬ k < rs.length) (s t : Int) : vbF x (rs.drop k) s t = (true, s, t) := by rw [List.drop_eq_nil_of_le (by omega)]; rfl
theorem vb_bad {x : Int} {rs : List Rt} {k : Nat} (hk : k < rs.length) {s t : Int} (h : adB s t (rd rs k).2.2 (lsN (rd rs k) x) (lsD (rd rs k) x) = false) : vbF x (rs.drop k) s t = (false, 0, 0) := by rw [drop_rd hk, vbF, if_neg (by simp [h])]
theorem vb_more {x : Int} {rs : List Rt} {k : Nat} (hk : k < rs.length) {s t : Int} (h : adB s t (rd rs k).2.2 (lsN (rd rs k) x) (lsD (rd rs k) x) = true) :
    vbF x (rs.drop k) s t = vbF x (rs.drop (k + 1)) (adN s t (rd rs k).2.2 (lsN (rd rs k) x) (lsD (rd rs k) x)) (adD s t (rd rs k).2.2 (lsN (rd rs k) x) (lsD (rd rs k) x)) := by rw [drop_rd hk, vbF, if_pos h]
def vrB (zs : List Int) (x : Int) : Bool := poB zs && finB x
/-- What stands before the roots: the last coefficient, and the first corner times x. -/
def vr0 (zs : List Int) (x : Int) : Int := pv zs (zs.length - 1) + gd (corL zs) 0 * x
def vrR (zs : List Int) (x : Int) : Bool × Int × Int := if vrB zs x = true then vbF x (rootsL zs) (vr0 zs x) 1 else (false, 0, 0)
theorem vrR_yes {zs : List Int} {x : Int} (h : vrB zs x = true) : vrR zs x = vbF x (rootsL zs) (vr0 zs x) 1 := if_pos h
theorem vrR_no {zs : List Int} {x : Int} (h : vrB zs x = false) : vrR zs x = (false, 0, 0) := if_neg (by simp [h])
theorem vr0_bd {zs : List Int} {x : Int} (h : vrB zs x = true) : (-12000000 ≤ gd (corL zs) 0 * x ∧ gd (corL zs) 0 * x ≤ 12000000) ∧ (-1000000 ≤ pv zs (zs.length - 1) ∧ pv zs (zs.length - 1) ≤ 1000000) ∧ -1000000 ≤ x ∧ x ≤ 1000000 := by
  unfold vrB at h
  rw [Bool.and_eq_true] at h
  have hc := corL_ok h.1
  have hx := (finB_iff x).1 h.2
  have h0 := hc.pt 0 hc.pos
  have h1 := hc.pt ((corL zs).length - 1) (by have := hc.pos; omega)
  have hz := hc.zl
  rw [hc.last] at h1
  have hm := mul12 (a := x) (d := gd (corL zs) 0) (M := 1000000) hx (by omega) (by omega)
  rw [Int.mul_comm]
  exact ⟨by omega, h1.2.2, hx⟩

/-! ### Results that stand for all lists -/
def coR (zs : List Int) : List Int := if poB zs = true then corL zs else []
theorem coR_yes {zs : List Int} (h : poB zs = true) : coR zs = corL zs := if_pos h
theorem coR_no {zs : List Int} (h : poB zs = false) : coR zs = [] := if_neg (by simp [h])
theorem coR_le (zs : List Int) : (coR zs).length ≤ 13 := by
  unfold coR; split
  · rename_i h; exact (corL_ok h).le
  · simp
def ndR (zs : List Int) : List Int := if poB zs = true then ndL zs (corL zs) (gd (corL zs) 0) (hgM zs (corL zs)) else []
theorem ndR_yes {zs : List Int} (h : poB zs = true) : ndR zs = ndL zs (corL zs) (gd (corL zs) 0) (hgM zs (corL zs)) := if_pos h
theorem ndR_no {zs : List Int} (h : poB zs = false) : ndR zs = [] := if_neg (by simp [h])
theorem hgM_le {zs : List Int} (h : poB zs = true) : hgM zs (corL zs) ≤ 13 ∧ (hgM zs (corL zs) : Int) = zs.length - gd (corL zs) 0 := by
  have hc := corL_ok h
  have h0 := hc.pt 0 hc.pos
  have hz := hc.zl
  unfold hgM
  omega
theorem ndR_le (zs : List Int) : (ndR zs).length ≤ 13 := by
  unfold ndR; split
  · rename_i h; exact Nat.le_trans (ndL_len _ _ _ _) (hgM_le h).1
  · simp
def lwR (zs : List Int) : List Int := if poB zs = true then lowL zs else []
theorem lwR_yes {zs : List Int} (h : poB zs = true) : lwR zs = lowL zs := if_pos h
theorem lwR_no {zs : List Int} (h : poB zs = false) : lwR zs = [] := if_neg (by simp [h])
theorem lwR_le (zs : List Int) : (lwR zs).length ≤ 13 := by
  unfold lwR; split
  · rename_i h; have := (po_parts h).2.2.1; simp [lowL, tab_len]; omega
  · simp
end Go.Proofs.YtklcildhfcomnaaGreatDoor
