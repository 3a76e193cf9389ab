/-
  Values by roots are the values of the polynomial: plain mathematics (for FnRoots).
  No condition: corners as the model finds them.
-/
import Derived.Test.YtklcildhfcomnaaGreatDoorRootC
namespace Go.Proofs.YtklcildhfcomnaaGreatDoor
set_option linter.unusedSimpArgs false
set_option linter.unusedVariables false
open Go.RowKit

/-- A term's value. -/
def fX (zs : List Int) (x y : Int) : Int := pv zs y + y * x
theorem mul12' {a d : Int} {M : Int} (ha : -M ≤ a ∧ a ≤ M) (hM : 0 ≤ M) (hd : 0 ≤ d ∧ d ≤ 12) : -(12 * M) ≤ d * a ∧ d * a ≤ 12 * M := by
  have h := mul12 ha hM hd
  rw [Int.mul_comm a d] at h; exact h
/-- A point that is no corner between two others is not less than both. -/
theorem cor_between {zs : List Int} {i j k x : Int} (h1 : i < j) (h2 : j < k) (h : corB zs i j k = false) : fX zs x i ≤ fX zs x j ∨ fX zs x k ≤ fX zs x j := by
  have hc : ¬ ((pv zs j - pv zs i) * (k - i) < (pv zs k - pv zs i) * (j - i)) := of_decide_eq_false h
  by_cases e1 : fX zs x i ≤ fX zs x j
  · exact .inl e1
  by_cases e2 : fX zs x k ≤ fX zs x j
  · exact .inr e2
  exfalso
  unfold fX at e1 e2
  have a1 : (pv zs j + j * x) * (k - j) < (pv zs i + i * x) * (k - j) := Int.mul_lt_mul_of_pos_right (by omega) (by omega)
  have a2 : (pv zs j + j * x) * (j - i) < (pv zs k + k * x) * (j - i) := Int.mul_lt_mul_of_pos_right (by omega) (by omega)
  generalize pv zs i = A at *
  generalize pv zs j = B at *
  generalize pv zs k = D at *
  apply hc
  have b1 : (B - A) * (k - i) - (D - A) * (j - i) = (B * (k - j) - A * (k - j)) + (B * (j - i) - D * (j - i)) := by
    simp only [Int.mul_sub, Int.sub_mul]; omega
  have b2 : (B + j * x) * (k - j) - (A + i * x) * (k - j) + ((B + j * x) * (j - i) - (D + k * x) * (j - i)) = (B * (k - j) - A * (k - j)) + (B * (j - i) - D * (j - i)) := by
    have c1 : j * x * (k - j) - i * x * (k - j) = (j - i) * (k - j) * x := by
      simp only [Int.mul_sub, Int.sub_mul, Int.mul_comm, Int.mul_left_comm]; omega
    have c2 : j * x * (j - i) - k * x * (j - i) = -((j - i) * (k - j) * x) := by
      simp only [Int.mul_sub, Int.sub_mul, Int.mul_comm, Int.mul_left_comm]; omega
    simp only [Int.add_mul]
    omega
  omega
theorem Cx.below_top {zs : List Int} {j : Int} : ∀ {s : List Int}, Cx zs (j :: s) → ∀ y ∈ s, y < j
  | [], _, y, h => by cases h
  | i :: t, hc, y, h => by
    have h1 := hc.lt
    rcases List.mem_cons.1 h with rfl | h
    · exact h1
    · have := Cx.below_top hc.tail y h; omega
theorem pop_min {zs : List Int} {k x : Int} : ∀ {s : List Int}, Cx zs s → (∀ y ∈ s, y < k) → ∀ y ∈ s, ∃ c ∈ k :: popR zs k s, fX zs x c ≤ fX zs x y
  | [], _, _, y, h => by cases h
  | [i], _, _, y, h => ⟨y, List.mem_cons_of_mem _ h, Int.le_refl _⟩
  | j :: i :: t, hc, hk, y, h => by
    cases hb : corB zs i j k
    · rw [popR_more hb]
      have hk' : ∀ y ∈ i :: t, y < k := fun y hy => hk y (List.mem_cons_of_mem _ hy)
      rcases List.mem_cons.1 h with rfl | h
      · rcases cor_between (x := x) hc.lt (hk y (by simp)) hb with h1 | h1
        · obtain ⟨c, h2, h3⟩ := pop_min (x := x) hc.tail hk' i (by simp)
          exact ⟨c, h2, Int.le_trans h3 h1⟩
        · exact ⟨k, by simp, h1⟩
      · exact pop_min hc.tail hk' y h
    · rw [popR_stop hb]
      exact ⟨y, List.mem_cons_of_mem _ h, Int.le_refl _⟩
theorem cor_min {zs : List Int} {x : Int} (l : List Int) (hs : l.Pairwise (· < ·)) : ∀ y ∈ l, ∃ c ∈ corR zs l, fX zs x c ≤ fX zs x y := by
  induction l using snoc_ind with
  | h0 => intro y h; cases h
  | h1 l k ih =>
    intro y hy
    rw [corR_next]
    rw [List.pairwise_append] at hs
    rcases List.mem_append.1 hy with hy | hy
    · obtain ⟨c, h1, h2⟩ := ih hs.1 y hy
      obtain ⟨c', h3, h4⟩ := pop_min (k := k) (x := x) (corR_cx l hs.1) (fun z hz => hs.2.2 z (corR_sub l z hz) k (by simp)) c h1
      exact ⟨c', h3, Int.le_trans h4 h2⟩
    · simp at hy; subst hy
      exact ⟨y, by simp, Int.le_refl _⟩
/-- The value is that of a corner. -/
theorem val_corner {zs : List Int} {x M : Int} (h : poB zs = true) (hx : -1000000 ≤ x ∧ x ≤ 1000000) (h1 : ∃ c ∈ corL zs, fX zs x c = M) (h2 : ∀ c ∈ corL zs, M ≤ fX zs x c) : valI zs x = M := by
  obtain ⟨-, p2, p3, -⟩ := po_parts h
  have hg : ∀ k, k < zs.length → gd (tms zs x) k = tmI zs x k := fun k hk => tab_gd _ hk
  have hmem : ∀ c, c ∈ corL zs ↔ c ∈ corR zs (pts zs zs.length) := fun c => by unfold corL; exact List.mem_reverse
  have hfin : ∀ k, k < zs.length → (gd zs k == 1000000000) = false → tmI zs x k = fX zs x k := fun k hk hk2 => by
    rw [tm_fin hk2 (tm_mul hx (by omega))]; unfold fX pv; rw [Int.toNat_natCast]
  refine Int.le_antisymm ?_ ?_
  · obtain ⟨c, hc, rfl⟩ := h1
    have hp := pts_mem.1 (corR_sub _ c ((hmem c).1 hc))
    obtain ⟨k, rfl⟩ : ∃ k : Nat, c = k := ⟨c.toNat, by omega⟩
    have hk : k < zs.length := by omega
    have hi : (gd zs k == 1000000000) = false := by have := hp.2.2; unfold pv at this; simpa using this
    have := (least_le (tms zs x)).2 k (by rw [tms_len]; exact hk)
    rw [hg k hk, hfin k hk hi] at this
    exact this
  · have hv := (val_bd h hx).2
    rcases least_in (tms zs x) with e | ⟨k, hk, e⟩
    · exfalso; unfold valI at hv; omega
    · rw [tms_len] at hk
      rw [hg k hk] at e
      have hi : (gd zs k == 1000000000) = false := by
        cases hq : (gd zs k == 1000000000)
        · rfl
        · rw [tm_inf hq] at e
          have : gd zs k = 1000000000 := by simpa using hq
          unfold valI at hv; omega
      rw [hfin k hk hi] at e
      obtain ⟨c, hc, hle⟩ := cor_min (x := x) (pts zs zs.length) (pts_sorted _ _) (k : Int) (pts_mem.2 ⟨by omega, by omega, by unfold pv; simpa using hi⟩)
      have := h2 c ((hmem c).2 hc)
      unfold valI; omega
/-! ### The sum over the roots -/
theorem ad_exact {s T N D p : Int} (hD : 1 ≤ D) (e : N * T = p * D) (h1 : -1000000000 ≤ p ∧ p ≤ 1000000000) (h2 : -1000000000 ≤ s + p ∧ s + p ≤ 1000000000) : adB s 1 T N D = true ∧ adN s 1 T N D = s + p ∧ adD s 1 T N D = 1 := by
  obtain ⟨m1, m2, m3⟩ := mk_uniq (mk_whole h1).1 (p := T * N) (q := 1 * D) (by omega) (by rw [Int.mul_one, Int.one_mul, Int.mul_comm]; exact e)
  obtain ⟨-, n1, n2, n3⟩ := mk_whole h2
  unfold adB adN adD okF
  simp only [m1, m2, m3, n1, n2, n3, Int.mul_one, if_true, Bool.and_self, and_self]
/-- The least value of the last k + 1 corners. -/
def mnX (zs C : List Int) (x : Int) : Nat → Int
  | 0 => fX zs x (gd C (C.length - 1))
  | k + 1 => if fX zs x (gd C (C.length - 2 - k)) ≤ mnX zs C x k then fX zs x (gd C (C.length - 2 - k)) else mnX zs C x k
theorem mnX_le (zs C : List Int) (x : Int) : ∀ k, mnX zs C x k ≤ fX zs x (gd C (C.length - 1 - k))
  | 0 => Int.le_refl _
  | k + 1 => by
    rw [mnX, show C.length - 1 - (k + 1) = C.length - 2 - k by omega]
    split <;> omega
theorem mnX_all {zs C : List Int} {x : Int} : ∀ k, ∀ m, C.length - 1 - k ≤ m → m < C.length → mnX zs C x k ≤ fX zs x (gd C m)
  | 0, m, h, hm => by
    obtain rfl : m = C.length - 1 := by omega
    exact Int.le_refl _
  | k + 1, m, h, hm => by
    by_cases e : m = C.length - 1 - (k + 1)
    · subst e; exact mnX_le zs C x (k + 1)
    · have ih := mnX_all (zs := zs) (x := x) k m (by omega) hm
      rw [mnX]; split <;> omega
theorem mnX_in {zs C : List Int} {x : Int} (h : 1 ≤ C.length) : ∀ k, k < C.length → ∃ m, m < C.length ∧ fX zs x (gd C m) = mnX zs C x k
  | 0, _ => ⟨C.length - 1, by omega, rfl⟩
  | k + 1, hk => by
    rw [mnX]; split
    · exact ⟨C.length - 2 - k, by omega, rfl⟩
    · exact mnX_in h k (by omega)
/-- Once the values rise they rise on. -/
theorem Corn.rise {zs C : List Int} (h : Corn zs C) {x : Int} {n : Nat} (hn : n + 2 < C.length) (hr : fX zs x (gd C n) ≤ fX zs x (gd C (n + 1))) : fX zs x (gd C (n + 1)) ≤ fX zs x (gd C (n + 2)) := by
  have u1 := h.up n (by omega)
  have u2 := h.up (n + 1) (by omega)
  have hc := of_decide_eq_true (h.cor n hn)
  rw [show n + 1 + 1 = n + 2 by omega] at u2
  unfold fX at hr ⊢
  generalize gd C n = i at *
  generalize gd C (n + 1) = j at *
  generalize gd C (n + 2) = k at *
  generalize pv zs i = A at *
  generalize pv zs j = B at *
  generalize pv zs k = D at *
  apply Decidable.byContradiction
  intro hlt
  have a1 : 0 ≤ (B + j * x - (A + i * x)) * (k - j) := Int.mul_nonneg (by omega) (by omega)
  have a2 : 0 ≤ (B + j * x - (D + k * x)) * (j - i) := Int.mul_nonneg (by omega) (by omega)
  have e : (B - A) * (k - i) - (D - A) * (j - i) = (B + j * x - (A + i * x)) * (k - j) + (B + j * x - (D + k * x)) * (j - i) := by
    have c1 : (j * x - i * x) * (k - j) + (j * x - k * x) * (j - i) = 0 := by
      simp only [Int.mul_sub, Int.sub_mul, Int.mul_comm, Int.mul_left_comm]; omega
    have c2 : (B - A) * (k - i) - (D - A) * (j - i) = (B - A) * (k - j) + (B - D) * (j - i) := by
      simp only [Int.mul_sub, Int.sub_mul]; omega
    have c3 : (B + j * x - (A + i * x)) = (B - A) + (j * x - i * x) := by omega
    have c4 : (B + j * x - (D + k * x)) = (B - D) + (j * x - k * x) := by omega
    rw [c2, c3, c4, Int.add_mul, Int.add_mul]
    omega
  omega
theorem Corn.mn_rise {zs C : List Int} (h : Corn zs C) {x : Int} : ∀ k, k + 2 ≤ C.length → fX zs x (gd C (C.length - 2 - k)) ≤ fX zs x (gd C (C.length - 1 - k)) → mnX zs C x k = fX zs x (gd C (C.length - 1 - k))
  | 0, _, _ => rfl
  | k + 1, hk, hr => by
    have r2 := h.rise (x := x) (n := C.length - 2 - (k + 1)) (by omega) (by rw [show C.length - 2 - (k + 1) + 1 = C.length - 1 - (k + 1) by omega]; exact hr)
    rw [show C.length - 2 - (k + 1) + 1 = C.length - 2 - k by omega, show C.length - 2 - (k + 1) + 2 = C.length - 1 - k by omega] at r2
    have ih := h.mn_rise (x := x) k (by omega) r2
    rw [mnX, ih, if_pos r2, show C.length - 1 - (k + 1) = C.length - 2 - k by omega]
theorem rd_rts {zs C : List Int} : ∀ {d i : Nat}, i < d → rd (rtsL zs C d) i = rootAt zs C (C.length - 2 - i)
  | 0, _, h => by omega
  | d + 1, i, h => by
    have hl := rtsL_len zs C d
    by_cases e : i < d
    · have ih := rd_rts (zs := zs) (C := C) e
      rw [← ih]
      unfold rd
      rw [rtsL, List.getD_eq_getElem?_getD, List.getD_eq_getElem?_getD, List.getElem?_append_left (by omega)]
    · obtain rfl : i = d := by omega
      unfold rd
      rw [rtsL, List.getD_eq_getElem?_getD, List.getElem?_append_right (by omega), hl, Nat.sub_self]
      rfl
theorem Corn.f_bd {zs C : List Int} (h : Corn zs C) {x : Int} (hx : -1000000 ≤ x ∧ x ≤ 1000000) {m : Nat} (hm : m < C.length) : -13000000 ≤ fX zs x (gd C m) ∧ fX zs x (gd C m) ≤ 13000000 := by
  obtain ⟨h1, h2, h3, h4⟩ := h.pt m hm
  have := h.zl
  have := mul12' (a := x) (d := gd C m) (M := 1000000) (by omega) (by omega) (by omega)
  unfold fX; omega
/-- What has been added up behind k roots. -/
def smX (zs C : List Int) (x : Int) (k : Nat) : Int := mnX zs C x k - (gd C (C.length - 1 - k) - gd C 0) * x
theorem Corn.sm_step {zs C : List Int} (h : Corn zs C) {x : Int} (hx : -1000000 ≤ x ∧ x ≤ 1000000) {k : Nat} (hk : k + 1 < C.length) :
    adB (smX zs C x k) 1 (rootAt zs C (C.length - 2 - k)).2.2 (lsN (rootAt zs C (C.length - 2 - k)) x) (lsD (rootAt zs C (C.length - 2 - k)) x) = true ∧
    adN (smX zs C x k) 1 (rootAt zs C (C.length - 2 - k)).2.2 (lsN (rootAt zs C (C.length - 2 - k)) x) (lsD (rootAt zs C (C.length - 2 - k)) x) = smX zs C x (k + 1) ∧
    adD (smX zs C x k) 1 (rootAt zs C (C.length - 2 - k)).2.2 (lsN (rootAt zs C (C.length - 2 - k)) x) (lsD (rootAt zs C (C.length - 2 - k)) x) = 1 := by
  obtain ⟨n, hn⟩ : ∃ n, n = C.length - 2 - k := ⟨_, rfl⟩
  have en : C.length - 1 - k = n + 1 := by omega
  have hrise := h.mn_rise (x := x) k (by omega)
  have hle := mnX_le zs C x k
  obtain ⟨m, hm1, hm2⟩ := mnX_in (zs := zs) (x := x) h.pos k (by omega)
  have hmb := h.f_bd hx hm1
  rw [hm2] at hmb
  have hstep : mnX zs C x (k + 1) = if fX zs x (gd C n) ≤ mnX zs C x k then fX zs x (gd C n) else mnX zs C x k := by rw [mnX, ← hn]
  rw [en] at hle hrise
  rw [← hn] at hrise
  unfold smX
  rw [show C.length - 1 - (k + 1) = n by omega, en, ← hn, hstep]
  obtain ⟨q1, q2⟩ := h.root (n := n) (by omega)
  obtain ⟨-, f1, e1⟩ := mk_parts q1
  have hD := (frB_pos f1).1
  obtain ⟨a1, a2, a3, a4⟩ := h.pt n (by omega)
  obtain ⟨b1, b2, b3, b4⟩ := h.pt (n + 1) (by omega)
  obtain ⟨c1, c2, -, -⟩ := h.pt 0 h.pos
  have c0 := up_le h.up (n := 0) (m := n) (by omega) (by omega)
  have u1 := h.up n (by omega)
  have hz := h.zl
  have hT : (rootAt zs C n).2.2 = gd C (n + 1) - gd C n := rfl
  have hN : (rootAt zs C n).1 = mkN (pv zs (gd C n) - pv zs (gd C (n + 1))) (gd C (n + 1) - gd C n) := rfl
  have hDD : (rootAt zs C n).2.1 = mkD (pv zs (gd C n) - pv zs (gd C (n + 1))) (gd C (n + 1) - gd C n) := rfl
  unfold lsN lsD
  rw [hT, hN, hDD]
  unfold fX at *
  generalize mkN (pv zs (gd C n) - pv zs (gd C (n + 1))) (gd C (n + 1) - gd C n) = N at *
  generalize mkD (pv zs (gd C n) - pv zs (gd C (n + 1))) (gd C (n + 1) - gd C n) = D at *
  generalize mnX zs C x k = M at *
  generalize gd C n = i at *
  generalize gd C (n + 1) = j at *
  generalize gd C 0 = o at *
  generalize pv zs i = A at *
  generalize pv zs j = B at *
  have m1 := mul12' (a := x) (d := j - i) (M := 1000000) (by omega) (by omega) (by omega)
  have m2 := mul12' (a := x) (d := j - o) (M := 1000000) (by omega) (by omega) (by omega)
  have m3 := mul12' (a := x) (d := i - o) (M := 1000000) (by omega) (by omega) (by omega)
  have s1 : (j - o) * x = (j - i) * x + (i - o) * x := by rw [← Int.add_mul]; congr 1; omega
  have s2 : j * x = (j - i) * x + i * x := by rw [← Int.add_mul]; congr 1; omega
  have key : N ≤ x * D ↔ A - B ≤ (j - i) * x := by
    constructor
    · intro hle
      have := Int.mul_le_mul_of_nonneg_right hle (show 0 ≤ j - i by omega)
      rw [← e1] at this
      refine Int.le_of_mul_le_mul_right (a := D) ?_ hD
      have e2 : x * D * (j - i) = (j - i) * x * D := by rw [Int.mul_comm (x * D), ← Int.mul_assoc]
      rw [← e2]; exact this
    · intro hle
      have := Int.mul_le_mul_of_nonneg_right hle (show 0 ≤ D by omega)
      rw [e1] at this
      refine Int.le_of_mul_le_mul_right (a := j - i) ?_ (by omega)
      have e2 : x * D * (j - i) = (j - i) * x * D := by rw [Int.mul_comm (x * D), ← Int.mul_assoc]
      rw [e2]; exact this
  by_cases hc : N ≤ x * D
  · have hc' := key.1 hc
    rw [if_pos hc, if_pos hc]
    have hr := hrise (by omega)
    obtain ⟨x1, x2, x3⟩ := ad_exact (s := M - (j - o) * x) (T := j - i) (N := N) (D := D) (p := A - B) (by omega) e1.symm (by omega) (by omega)
    refine ⟨x1, ?_, x3⟩
    rw [x2, if_pos (by omega)]
    omega
  · have hc' : ¬ (A - B ≤ (j - i) * x) := fun e => hc (key.2 e)
    rw [if_neg hc, if_neg hc]
    obtain ⟨x1, x2, x3⟩ := ad_whole (s := M - (j - o) * x) (k := j - i) (a := x) (by omega) (by omega)
    refine ⟨x1, ?_, x3⟩
    rw [x2, if_neg (by omega)]
    omega
/-- The value by roots is the value, whole. -/
theorem vr_value {zs : List Int} {x : Int} (h : vrB zs x = true) : vrR zs x = (true, valI zs x, 1) := by
  have hb := h
  unfold vrB at hb
  rw [Bool.and_eq_true] at hb
  have hx := (finB_iff _).1 hb.2
  have hc := corL_ok hb.1
  have hp := hc.pos
  rw [vrR_yes h]
  have hl : (rootsL zs).length = (corL zs).length - 1 := rtsL_len _ _ _
  have go : ∀ k, k + 1 ≤ (corL zs).length → vbF x (rootsL zs) (vr0 zs x) 1 = vbF x ((rootsL zs).drop k) (smX zs (corL zs) x k) 1 := by
    intro k
    induction k with
    | zero =>
      intro _
      rw [List.drop_zero]
      congr 1
      unfold vr0 smX mnX fX
      rw [Nat.sub_zero, hc.last]
      have e := Int.sub_mul ((zs.length : Int) - 1) (gd (corL zs) 0) x
      omega
    | succ k ih =>
      intro hk
      have hrd : rd (rootsL zs) k = rootAt zs (corL zs) ((corL zs).length - 2 - k) := rd_rts (by omega)
      obtain ⟨x1, x2, x3⟩ := hc.sm_step hx (k := k) (by omega)
      rw [← hrd] at x1 x2 x3
      rw [ih (by omega), vb_more (by omega) x1, x2, x3]
  rw [go ((corL zs).length - 1) (by omega), vb_end _ _ _ (by omega)]
  have e0 : smX zs (corL zs) x ((corL zs).length - 1) = mnX zs (corL zs) x ((corL zs).length - 1) := by
    unfold smX
    rw [Nat.sub_self]; simp
  rw [e0]
  have hv := val_corner (M := mnX zs (corL zs) x ((corL zs).length - 1)) hb.1 hx (by
    obtain ⟨m, h1, h2⟩ := mnX_in (zs := zs) (x := x) hp ((corL zs).length - 1) (by omega)
    exact ⟨gd (corL zs) m, gd_mem h1, h2⟩) (fun c hcm => by
    obtain ⟨m, h1, rfl⟩ := mem_gd hcm
    exact mnX_all _ m (by omega) h1)
  rw [hv]
end Go.Proofs.YtklcildhfcomnaaGreatDoor
