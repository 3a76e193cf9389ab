/-
  Polynomials in one unknown: the plain mathematics of their terms, sums, products and powers.
  No condition: lists of integers.
-/
import Derived.Test.YtijmnbgmpakllaaTrop
import Derived.Shelf.Abstract
namespace Go.Proofs.Ytijmnbgmpakllaa
set_option linter.unusedSimpArgs false
set_option linter.unusedVariables false
open Go.RowKit

/-- The list of the first k values of a function. -/
def tab (f : Nat → Int) (k : Nat) : List Int := (List.range k).map f
theorem tab_len (f : Nat → Int) (k : Nat) : (tab f k).length = k := by simp [tab]
theorem tab_next (f : Nat → Int) (k : Nat) : tab f (k + 1) = tab f k ++ [f k] := by simp [tab, List.range_succ]
theorem tab_gd (f : Nat → Int) {k n : Nat} (h : k < n) : gd (tab f n) k = f k := by
  rw [gd_eq _ k (by rw [tab_len]; exact h)]; simp [tab]
theorem tab_take (f : Nat → Int) {k n : Nat} (h : k ≤ n) : (tab f n).take k = tab f k := by
  unfold tab; rw [← List.map_take, List.take_range, Nat.min_eq_left h]
theorem tab_ext {f g : Nat → Int} {n : Nat} (h : ∀ k, k < n → f k = g k) : tab f n = tab g n := by
  unfold tab; exact List.map_congr_left fun k hk => h k (by simpa using hk)
theorem tab_self (zs : List Int) : tab (gd zs) zs.length = zs := by
  refine List.ext_getElem (by rw [tab_len]) fun i h1 h2 => ?_
  have := tab_gd (gd zs) (k := i) (n := zs.length) h2
  rw [gd_eq _ i h1, gd_eq _ i h2] at this
  exact this
theorem tab_all {f : Nat → Int} {n : Nat} {q : Int → Bool} (h : ∀ k, k < n → q (f k) = true) : (tab f n).all q = true := by
  unfold tab; simp only [List.all_map, List.all_eq_true, List.mem_range, Function.comp]; exact fun k hk => h k hk
theorem mem_gd {zs : List Int} {x : Int} (h : x ∈ zs) : ∃ k, k < zs.length ∧ gd zs k = x := by
  obtain ⟨k, hk, he⟩ := List.getElem_of_mem h
  exact ⟨k, hk, by rw [gd_eq zs k hk, he]⟩
theorem gd_mem {zs : List Int} {k : Nat} (h : k < zs.length) : gd zs k ∈ zs := by rw [gd_eq zs k h]; exact List.getElem_mem h
/-- The least of the first values. -/
theorem tab_least (f : Nat → Int) (k : Nat) : leastL (tab f (k + 1)) = lessI (leastL (tab f k)) (f k) := by
  unfold leastL; rw [tab_next, List.foldl_append]; rfl
theorem fold_le : ∀ (zs : List Int) (a : Int), zs.foldl lessI a ≤ a ∧ ∀ x ∈ zs, zs.foldl lessI a ≤ x
  | [], a => ⟨Int.le_refl _, fun _ h => by cases h⟩
  | z :: r, a => by
    have h := fold_le r (lessI a z)
    have hl : lessI a z ≤ a ∧ lessI a z ≤ z := by unfold lessI; split <;> omega
    refine ⟨Int.le_trans h.1 hl.1, fun x hx => ?_⟩
    rcases List.mem_cons.1 hx with rfl | hx
    · exact Int.le_trans h.1 hl.2
    · exact h.2 x hx
theorem fold_in : ∀ (zs : List Int) (a : Int), zs.foldl lessI a = a ∨ zs.foldl lessI a ∈ zs
  | [], a => .inl rfl
  | z :: r, a => by
    have hl : lessI a z = a ∨ lessI a z = z := by unfold lessI; split <;> simp
    rcases fold_in r (lessI a z) with h | h
    · rcases hl with e | e
      · exact .inl (h.trans e)
      · exact .inr (List.mem_cons.2 (.inl (h.trans e)))
    · exact .inr (List.mem_cons.2 (.inr h))
theorem least_le (zs : List Int) : leastL zs ≤ 1000000000 ∧ ∀ k, k < zs.length → leastL zs ≤ gd zs k :=
  ⟨(fold_le zs _).1, fun k hk => (fold_le zs _).2 _ (gd_mem hk)⟩
theorem least_in (zs : List Int) : leastL zs = 1000000000 ∨ ∃ k, k < zs.length ∧ gd zs k = leastL zs := by
  rcases fold_in zs 1000000000 with h | h
  · exact .inl h
  · exact .inr (mem_gd h)
/-- All of them within bounds: so is the least one. -/
theorem least_bd {zs : List Int} {lo hi : Int} (h : ∀ k, k < zs.length → lo ≤ gd zs k) (h0 : lo ≤ 1000000000) : lo ≤ leastL zs := by
  rcases least_in zs with e | ⟨k, hk, e⟩
  · omega
  · have := h k hk; omega
/-- Among the places below k there is one of an element equal to m, if there is such an element. -/
theorem plc_pos {zs : List Int} {m : Int} {i : Nat} (hi : gd zs i = m) : ∀ {k : Nat}, i < k → 0 < (plc zs m k).length
  | 0, h => by omega
  | k + 1, h => by
    simp only [plc, List.length_append]
    by_cases e : i = k
    · subst e; rw [if_pos (by simp [hi])]; simp
    · have := plc_pos hi (k := k) (by omega); omega
theorem plc_mem {zs : List Int} {m x : Int} : ∀ {k : Nat}, x ∈ plc zs m k → 0 ≤ x ∧ x < k
  | 0, h => by simp [plc] at h
  | k + 1, h => by
    simp only [plc, List.mem_append] at h
    rcases h with h | h
    · have := plc_mem h; omega
    · split at h
      · simp at h; omega
      · simp at h

/-- Is a list a polynomial. -/
def poB (zs : List Int) : Bool := zs.all numB && (inB zs.length 1 13 && (gd zs (zs.length - 1) != 1000000000))
theorem po_parts {zs : List Int} (h : poB zs = true) : zs.all numB = true ∧ 1 ≤ zs.length ∧ zs.length ≤ 13 ∧ gd zs (zs.length - 1) ≠ 1000000000 := by
  unfold poB at h
  simp only [Bool.and_eq_true, bne_iff_ne, inB_iff] at h
  obtain ⟨h1, h2, h3⟩ := h
  exact ⟨h1, by omega, by omega, h3⟩
theorem po_of {zs : List Int} (h1 : zs.all numB = true) (h2 : 1 ≤ zs.length) (h3 : zs.length ≤ 13) (h4 : gd zs (zs.length - 1) ≠ 1000000000) : poB zs = true := by
  unfold poB
  simp only [Bool.and_eq_true, bne_iff_ne, inB_iff]
  exact ⟨h1, by omega, h4⟩
theorem po_num {zs : List Int} (h : poB zs = true) {k : Nat} (hk : k < zs.length) : numB (gd zs k) = true := num_at zs (po_parts h).1 k hk
theorem po_last {zs : List Int} (h : poB zs = true) : -1000000 ≤ gd zs (zs.length - 1) ∧ gd zs (zs.length - 1) ≤ 1000000 := by
  obtain ⟨h1, h2, h3, h4⟩ := po_parts h
  have := numB_cases (po_num h (k := zs.length - 1) (by omega))
  omega
/-- The value of a term. -/
def tmI (zs : List Int) (x : Int) (i : Nat) : Int := plusI (gd zs i) (i * x)
def tms (zs : List Int) (x : Int) : List Int := tab (tmI zs x) zs.length
theorem tms_len (zs : List Int) (x : Int) : (tms zs x).length = zs.length := tab_len _ _
theorem tm_mul {x : Int} {i : Nat} (hx : -1000000 ≤ x ∧ x ≤ 1000000) (hi : i ≤ 13) : -13000000 ≤ (i : Int) * x ∧ (i : Int) * x ≤ 13000000 := by
  have : i = 0 ∨ i = 1 ∨ i = 2 ∨ i = 3 ∨ i = 4 ∨ i = 5 ∨ i = 6 ∨ i = 7 ∨ i = 8 ∨ i = 9 ∨ i = 10 ∨ i = 11 ∨ i = 12 ∨ i = 13 := by omega
  rcases this with rfl | rfl | rfl | rfl | rfl | rfl | rfl | rfl | rfl | rfl | rfl | rfl | rfl | rfl <;> simp <;> omega
theorem tm_inf {zs : List Int} {x : Int} {i : Nat} (h : (gd zs i == 1000000000) = true) : tmI zs x i = gd zs i := by
  have h' : gd zs i = 1000000000 := by simpa using h
  unfold tmI plusI; rw [if_pos (.inl h'), h']
theorem tm_fin {zs : List Int} {x : Int} {i : Nat} (h : (gd zs i == 1000000000) = false) (hm : -13000000 ≤ (i : Int) * x ∧ (i : Int) * x ≤ 13000000) : tmI zs x i = gd zs i + i * x := by
  have h' : gd zs i ≠ 1000000000 := by simpa using h
  unfold tmI plusI; rw [if_neg (by omega)]
theorem tm_cases {zs : List Int} {x : Int} {i : Nat} (hn : numB (gd zs i) = true) (hx : -1000000 ≤ x ∧ x ≤ 1000000) (hi : i ≤ 13) : (gd zs i = 1000000000 ∧ tmI zs x i = 1000000000) ∨ (gd zs i ≠ 1000000000 ∧ -14000000 ≤ tmI zs x i ∧ tmI zs x i ≤ 14000000) := by
  have hm := tm_mul hx hi
  have hc := numB_cases hn
  unfold tmI plusI
  by_cases h : gd zs i = 1000000000
  · exact .inl ⟨h, if_pos (.inl h)⟩
  · rw [if_neg (by omega)]; omega
/-- The value: that of the least term. -/
def valI (zs : List Int) (x : Int) : Int := leastL (tms zs x)
theorem val_bd {zs : List Int} {x : Int} (h : poB zs = true) (hx : -1000000 ≤ x ∧ x ≤ 1000000) : -14000000 ≤ valI zs x ∧ valI zs x ≤ 14000000 := by
  obtain ⟨h1, h2, h3, h4⟩ := po_parts h
  have hg : ∀ k, k < zs.length → gd (tms zs x) k = tmI zs x k := fun k hk => tab_gd _ hk
  constructor
  · refine least_bd (hi := 0) (fun k hk => ?_) (by omega)
    rw [tms_len] at hk
    rw [hg k hk]
    have := tm_cases (x := x) (po_num h hk) hx (by omega)
    omega
  · have hl := (least_le (tms zs x)).2 (zs.length - 1) (by rw [tms_len]; omega)
    rw [hg _ (by omega)] at hl
    have := tm_cases (x := x) (po_num h (k := zs.length - 1) (by omega)) hx (by omega)
    unfold valI
    omega
/-- Has a polynomial a value at x that is a number. -/
def askB (zs : List Int) (x : Int) : Bool := poB zs && (finB x && finB (valI zs x))
theorem num_fin {n : Int} (h : n ≤ 14000000) : numB n = finB n := by
  cases hf : finB n
  · have : ¬ (-1000000 ≤ n ∧ n ≤ 1000000) := fun h' => by rw [(finB_iff n).2 h'] at hf; cases hf
    exact numB_no (by omega)
  · exact finB_num hf
def pvI (zs : List Int) (x : Int) : Int := if askB zs x = true then valI zs x else 0
theorem pv_no {zs : List Int} {x : Int} (h : askB zs x = false) : pvI zs x = 0 := if_neg (by simp [h])
theorem pv_yes {zs : List Int} {x : Int} (h : askB zs x = true) : pvI zs x = valI zs x := if_pos h
theorem ask_eq {zs : List Int} {x : Int} (h : poB zs = true) (hx : finB x = true) : numB (valI zs x) = askB zs x := by
  unfold askB; rw [h, hx, num_fin (val_bd h ((finB_iff x).1 hx)).2]; rfl
theorem pv_eq {zs : List Int} {x : Int} (h : poB zs = true) (hx : finB x = true) : orZ (valI zs x) = pvI zs x := by
  unfold orZ pvI; rw [ask_eq h hx]
theorem ask_parts {zs : List Int} {x : Int} (h : askB zs x = true) : poB zs = true ∧ finB x = true ∧ finB (valI zs x) = true := by
  unfold askB at h; simpa using h
/-- The exponents of the least terms. -/
def ltL (zs : List Int) (x : Int) : List Int := places (tms zs x)
def ltR (zs : List Int) (x : Int) : List Int := if askB zs x = true then ltL zs x else []
theorem ltR_no {zs : List Int} {x : Int} (h : askB zs x = false) : ltR zs x = [] := if_neg (by simp [h])
theorem ltR_yes {zs : List Int} {x : Int} (h : askB zs x = true) : ltR zs x = ltL zs x := if_pos h
theorem lt_pos {zs : List Int} {x : Int} (h : askB zs x = true) : 0 < (ltL zs x).length := by
  obtain ⟨h1, h2, h3⟩ := ask_parts h
  rcases least_in (tms zs x) with e | ⟨k, hk, e⟩
  · have := (finB_iff _).1 h3
    unfold valI at this
    omega
  · exact plc_pos e hk
theorem lt_le (zs : List Int) (x : Int) : (ltL zs x).length ≤ zs.length := by
  have := plc_len (tms zs x) (leastL (tms zs x)) (tms zs x).length
  rw [tms_len] at this
  unfold ltL places
  rw [tms_len]
  exact this
theorem ltR_le {zs : List Int} {x : Int} {m : Nat} (h : zs.length ≤ m) : (ltR zs x).length ≤ m := by
  unfold ltR; split
  · exact Nat.le_trans (lt_le _ _) h
  · simp
def slHi (zs : List Int) (x : Int) : Int := if askB zs x = true then gd (ltL zs x) ((ltL zs x).length - 1) else 0
def slLo (zs : List Int) (x : Int) : Int := if askB zs x = true then gd (ltL zs x) 0 else 0
/-- The coefficient of an exponent. -/
def atI (zs : List Int) (i : Nat) : Int := if i < zs.length then gd zs i else 1000000000
theorem at_in {zs : List Int} {i : Nat} (h : i < zs.length) : atI zs i = gd zs i := if_pos h
theorem at_out {zs : List Int} {i : Nat} (h : ¬ i < zs.length) : atI zs i = 1000000000 := if_neg h
theorem at_num {zs : List Int} (h : poB zs = true) (i : Nat) : numB (atI zs i) = true := by
  unfold atI; split
  · exact po_num h ‹_›
  · rfl
theorem at_bd {zs : List Int} (h : poB zs = true) (i : Nat) : -1000000 ≤ atI zs i ∧ atI zs i ≤ 1000000000 := numB_bd (at_num h i)
/-- The sum of two polynomials. -/
def most (a b : Nat) : Nat := if a < b then b else a
def sumF (p q : List Int) (i : Nat) : Int := lessI (atI p i) (atI q i)
def sumL (p q : List Int) : List Int := tab (sumF p q) (most p.length q.length)
theorem sum_po {p q : List Int} (hp : poB p = true) (hq : poB q = true) : poB (sumL p q) = true := by
  obtain ⟨p1, p2, p3, p4⟩ := po_parts hp
  obtain ⟨q1, q2, q3, q4⟩ := po_parts hq
  have hm : 1 ≤ most p.length q.length ∧ most p.length q.length ≤ 13 := by unfold most; split <;> omega
  have hl : (sumL p q).length = most p.length q.length := tab_len _ _
  refine po_of (tab_all fun k _ => lessI_n (at_num hp k) (at_num hq k)) (by omega) (by omega) ?_
  rw [hl]
  have hg : gd (sumL p q) (most p.length q.length - 1) = sumF p q (most p.length q.length - 1) := tab_gd _ (by omega)
  rw [hg]
  have := po_last hp
  have := po_last hq
  have hlp := (numB_bd (at_num hp (most p.length q.length - 1))).2
  have hlq := (numB_bd (at_num hq (most p.length q.length - 1))).2
  unfold sumF
  by_cases h : p.length < q.length
  · have e : most p.length q.length = q.length := if_pos h
    rw [e] at hlp ⊢
    rw [at_in (zs := q) (by omega)]
    unfold lessI; split <;> omega
  · have e : most p.length q.length = p.length := if_neg h
    rw [e] at hlq ⊢
    rw [at_in (zs := p) (by omega)]
    unfold lessI; split <;> omega
where lessI_n {a b : Int} (ha : numB a = true) (hb : numB b = true) : numB (lessI a b) = true := by unfold lessI; split <;> assumption
/-- The product of two polynomials. -/
def prI (p q : List Int) (n i : Nat) : Int := plusI (atI p i) (atI q (n - i))
def prF (p q : List Int) (n : Nat) : Int := leastL (tab (prI p q n) (n + 1))
def prL (p q : List Int) : List Int := tab (prF p q) (p.length + q.length - 1)
theorem prI_bd {p q : List Int} (hp : poB p = true) (hq : poB q = true) (n i : Nat) : -2000000 ≤ prI p q n i ∧ prI p q n i ≤ 2000000000 := by
  have := at_bd hp i
  have := at_bd hq (n - i)
  unfold prI plusI; split <;> omega
def okL (l : List Int) : List Int := if poB l = true then l else []
theorem okL_no {l : List Int} (h : poB l = false) : okL l = [] := if_neg (by simp [h])
theorem okL_yes {l : List Int} (h : poB l = true) : okL l = l := if_pos h
theorem okL_le (l : List Int) : (okL l).length ≤ 13 := by
  unfold okL; split
  · exact (po_parts ‹_›).2.2.1
  · simp
/-- The powers of a polynomial, and whether all products on the way are some. -/
def pwL (p : List Int) : Nat → List Int
  | 0 => [0]
  | k + 1 => prL (pwL p k) p
def pwB (p : List Int) : Nat → Bool
  | 0 => true
  | k + 1 => pwB p k && poB (pwL p (k + 1))
theorem pw_po {p : List Int} : ∀ {k : Nat}, pwB p k = true → poB (pwL p k) = true
  | 0, _ => rfl
  | k + 1, h => by simp only [pwB, Bool.and_eq_true] at h; exact h.2
theorem pwB_down {p : List Int} {j k : Nat} (h : j ≤ k) (hk : pwB p k = true) : pwB p j = true := by
  induction k with
  | zero => obtain rfl : j = 0 := by omega
            exact hk
  | succ k ih =>
    by_cases e : j = k + 1
    · rw [e]; exact hk
    · simp only [pwB, Bool.and_eq_true] at hk
      exact ih (by omega) hk.1
theorem pwB_no {p : List Int} {j k : Nat} (h : j < k) (hj : poB (pwL p (j + 1)) = false) : pwB p k = false := by
  cases e : pwB p k
  · rfl
  · have := pw_po (pwB_down (j := j + 1) h e)
    rw [hj] at this; cases this
/-- A moved polynomial. -/
theorem mv_po {zs : List Int} {x : Int} (h : poB zs = true) (hx : -1000000 ≤ x ∧ x ≤ 1000000) : poB (tms zs x) = (tms zs x).all numB := by
  obtain ⟨h1, h2, h3, h4⟩ := po_parts h
  cases e : (tms zs x).all numB
  · unfold poB; rw [e]; rfl
  · refine po_of e (by rw [tms_len]; exact h2) (by rw [tms_len]; exact h3) ?_
    rw [tms_len]
    have hg : gd (tms zs x) (zs.length - 1) = tmI zs x (zs.length - 1) := tab_gd _ (by omega)
    rw [hg]
    have := tm_cases (x := x) (po_num h (k := zs.length - 1) (by omega)) hx (by omega)
    omega
/-- The least exponent of a term. -/
def lowN : List Int → Nat
  | [] => 0
  | z :: r => if z = 1000000000 then lowN r + 1 else 0
theorem low_at : ∀ (zs : List Int) (k : Nat), (∀ i, i < k → gd zs i = 1000000000) → k < zs.length → gd zs k ≠ 1000000000 → lowN zs = k
  | [], k, _, h, _ => by simp at h
  | z :: r, 0, _, _, h => by
    have : z ≠ 1000000000 := by simpa [gd] using h
    simp [lowN, this]
  | z :: r, k + 1, h0, hk, h => by
    have hz : z = 1000000000 := by simpa [gd] using h0 0 (by omega)
    have ih := low_at r k (fun i hi => by simpa [gd] using h0 (i + 1) (by omega)) (by simpa using hk) (by simpa [gd] using h)
    simp [lowN, hz, ih]
theorem low_lt {zs : List Int} (h : poB zs = true) : lowN zs < zs.length ∧ gd zs (lowN zs) ≠ 1000000000 ∧ ∀ i, i < lowN zs → gd zs i = 1000000000 := by
  obtain ⟨-, h2, -, h4⟩ := po_parts h
  suffices H : ∀ (zs : List Int), 1 ≤ zs.length → gd zs (zs.length - 1) ≠ 1000000000 → lowN zs < zs.length ∧ gd zs (lowN zs) ≠ 1000000000 ∧ ∀ i, i < lowN zs → gd zs i = 1000000000 from H zs h2 h4
  intro zs
  induction zs with
  | nil => intro h; simp at h
  | cons z r ih =>
    intro _ h4
    by_cases hz : z = 1000000000
    · have hr : 1 ≤ r.length := by
        cases r with
        | nil => exact absurd (by simpa [gd] using h4) (by simp [hz])
        | cons _ _ => simp
      have ih' := ih hr (by
        have : (z :: r).length - 1 = (r.length - 1) + 1 := by simp; omega
        rw [this] at h4
        simpa [gd] using h4)
      simp only [lowN, hz, if_true]
      refine ⟨by simp; exact ih'.1, by simpa [gd] using ih'.2.1, fun i hi => ?_⟩
      cases i with
      | zero => simp [gd]
      | succ i => simpa [gd] using ih'.2.2 i (by omega)
    · simp only [lowN, if_neg hz]
      exact ⟨by simp, by simpa [gd] using hz, fun i hi => by omega⟩
/-- The mirrored polynomial. -/
def mrF (zs : List Int) (i : Nat) : Int := gd zs (zs.length - 1 - i)
def mrL (zs : List Int) : List Int := tab (mrF zs) (zs.length - lowN zs)
theorem mr_po {zs : List Int} (h : poB zs = true) : poB (mrL zs) = true := by
  obtain ⟨h1, h2, h3, h4⟩ := po_parts h
  obtain ⟨l1, l2, l3⟩ := low_lt h
  have hl : (mrL zs).length = zs.length - lowN zs := tab_len _ _
  refine po_of (tab_all fun k hk => po_num h (by omega)) (by omega) (by omega) ?_
  rw [hl]
  have hg : gd (mrL zs) (zs.length - lowN zs - 1) = mrF zs (zs.length - lowN zs - 1) := tab_gd _ (by omega)
  rw [hg]
  unfold mrF
  rw [show zs.length - 1 - (zs.length - lowN zs - 1) = lowN zs by omega]
  exact l2
end Go.Proofs.Ytijmnbgmpakllaa
/-
  Polynomials in one unknown, of the program and of the model: what each call returns.
  Conditions: the slice reads as the list that is named; a function value answers as the function that is named.
-/
namespace Go.Proofs.Ytijmnbgmpakllaa
set_option linter.unusedSimpArgs false
set_option linter.unusedVariables false
open Go.ChangeShapes Go.WideShapes Go.ChangeAt Go.RowKit

end Go.Proofs.Ytijmnbgmpakllaa
