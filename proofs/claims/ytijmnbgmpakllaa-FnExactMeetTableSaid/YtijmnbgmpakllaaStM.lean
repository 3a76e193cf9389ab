/-
  Stars, as lists of rays (DX, DY, W): plain mathematics.
  No condition.
-/
import Derived.Test.YtijmnbgmpakllaaPlM
import Derived.Test.YtijmnbgmpakllaaGcd
namespace Go.Proofs.Ytijmnbgmpakllaa
set_option linter.unusedSimpArgs false
set_option linter.unusedVariables false

/-- Is a ray valid. -/
def ryT (t : Tm) : Bool := inB t.1 (-20) 20 && (inB t.2.1 (-20) 20 && (decide (gI t.1 t.2.1 = 1) && inB t.2.2 1 20))
theorem ryT_parts {t : Tm} (h : ryT t = true) : -20 ≤ t.1 ∧ t.1 ≤ 20 ∧ -20 ≤ t.2.1 ∧ t.2.1 ≤ 20 ∧ gI t.1 t.2.1 = 1 ∧ 1 ≤ t.2.2 ∧ t.2.2 ≤ 20 := by
  unfold ryT at h
  simp only [Bool.and_eq_true, inB_iff, decide_eq_true_eq] at h
  obtain ⟨⟨h1, h2⟩, ⟨h3, h4⟩, h5, h6, h7⟩ := h
  exact ⟨h1, h2, h3, h4, h5, h6, h7⟩
theorem ryT_of {t : Tm} (h1 : -20 ≤ t.1) (h2 : t.1 ≤ 20) (h3 : -20 ≤ t.2.1) (h4 : t.2.1 ≤ 20) (h5 : gI t.1 t.2.1 = 1) (h6 : 1 ≤ t.2.2) (h7 : t.2.2 ≤ 20) : ryT t = true := by
  unfold ryT
  simp only [Bool.and_eq_true, inB_iff, decide_eq_true_eq]
  exact ⟨⟨h1, h2⟩, ⟨h3, h4⟩, h5, h6, h7⟩
theorem gI_zero : gI 0 0 = 0 := rfl
theorem ryT_ne {t : Tm} (h : ryT t = true) : t.1 ≠ 0 ∨ t.2.1 ≠ 0 := by
  have := (ryT_parts h).2.2.2.2.1
  by_cases h1 : t.1 = 0 <;> by_cases h2 : t.2.1 = 0
  · rw [h1, h2, gI_zero] at this; omega
  · exact .inr h2
  · exact .inl h1
  · exact .inl h1
/-- Are two numbers the steps of a direction. -/
def okS (x y : Int) : Bool := inB x (-20) 20 && (inB y (-20) 20 && (decide (x ≠ 0) || decide (y ≠ 0)))
theorem okS_iff (x y : Int) : okS x y = true ↔ -20 ≤ x ∧ x ≤ 20 ∧ -20 ≤ y ∧ y ≤ 20 ∧ (x ≠ 0 ∨ y ≠ 0) := by
  unfold okS
  simp only [Bool.and_eq_true, Bool.or_eq_true, inB_iff, decide_eq_true_eq]
  constructor
  · rintro ⟨⟨h1, h2⟩, ⟨h3, h4⟩, h5⟩; exact ⟨h1, h2, h3, h4, h5⟩
  · rintro ⟨h1, h2, h3, h4, h5⟩; exact ⟨⟨h1, h2⟩, ⟨h3, h4⟩, h5⟩
theorem gI_posL {n d : Int} (h : n ≠ 0 ∨ d ≠ 0) : 1 ≤ gI n d := by
  unfold gI
  have : 0 < Int.gcd n d := Int.gcd_pos_iff.2 h
  omega
theorem gI_dvdL (n d : Int) : gI n d ∣ n := by unfold gI; exact Int.gcd_dvd_left _ _
theorem gI_dvdR (n d : Int) : gI n d ∣ d := by unfold gI; exact Int.gcd_dvd_right _ _
theorem gI_abs (n d : Int) : gI (n.natAbs : Int) (d.natAbs : Int) = gI n d := by unfold gI; simp [Int.gcd]
theorem gI_neg (n d : Int) : gI (-n) (-d) = gI n d := by unfold gI; simp [Int.gcd]
theorem gI_le1 {n d b : Int} (h : n ≠ 0 ∨ d ≠ 0) (h1 : -b ≤ n ∧ n ≤ b) (h2 : -b ≤ d ∧ d ≤ b) : gI n d ≤ b := by
  rcases h with h | h
  · have : Int.gcd n d ≤ n.natAbs := Nat.le_of_dvd (by omega) (Nat.gcd_dvd_left _ _)
    unfold gI; omega
  · have := gI_le (n := n) h; omega

/-- Is the term at a place valid, and behind the one before it. -/
def ryAt (l : List Tm) (k : Nat) : Bool := ryT (td l k) && (decide (k = 0) || plLt (td l (k - 1)) (td l k))
def ryUp (l : List Tm) : Nat → Bool
  | 0 => true
  | k + 1 => ryUp l k && ryAt l k
theorem ryUp_bad {l : List Tm} {k : Nat} (h : ryAt l k = false) : ∀ n, k < n → ryUp l n = false
  | 0, hk => by omega
  | n + 1, hk => by
    by_cases he : k = n
    · subst he; simp [ryUp, h]
    · simp [ryUp, ryUp_bad h n (by omega)]
theorem ryUp_iff (l : List Tm) : ∀ n, n ≤ l.length → (ryUp l n = true ↔ (∀ t ∈ l.take n, ryT t = true) ∧ Srt (l.take n))
  | 0, _ => by simp [ryUp, Srt]
  | n + 1, h => by
    rw [ryUp, Bool.and_eq_true, ryUp_iff l n (by omega), take_td l n (by omega)]
    unfold Srt ryAt
    rw [List.pairwise_append]
    constructor
    · rintro ⟨⟨h1, h2⟩, h3⟩
      simp only [Bool.and_eq_true, Bool.or_eq_true, decide_eq_true_eq] at h3
      refine ⟨fun t ht => ?_, h2, by simp, fun a ha b hb => ?_⟩
      · rcases List.mem_append.1 ht with ht | ht
        · exact h1 t ht
        · rw [List.mem_singleton.1 ht]; exact h3.1
      · rw [List.mem_singleton.1 hb]
        obtain ⟨k, hk, hkl, rfl⟩ := mem_take_td ha
        rcases h3.2 with h0 | h3
        · omega
        · by_cases he : k = n - 1
          · rw [he]; exact h3
          · refine plLt_trans ?_ h3
            have hp := List.pairwise_iff_getElem.1 h2 k (n - 1) (by rw [List.length_take]; omega) (by rw [List.length_take]; omega) (by omega)
            rw [List.getElem_take, List.getElem_take] at hp
            rw [td_eq l k hkl, td_eq l (n - 1) (by omega)]
            exact hp
    · rintro ⟨h1, h2, -, h4⟩
      refine ⟨⟨fun t ht => h1 t (List.mem_append_left _ ht), h2⟩, ?_⟩
      simp only [Bool.and_eq_true, Bool.or_eq_true, decide_eq_true_eq]
      refine ⟨h1 _ (by simp), ?_⟩
      by_cases h0 : n = 0
      · exact .inl h0
      · refine .inr (h4 _ ?_ _ (by simp))
        rw [td_eq l (n - 1) (by omega)]
        exact List.mem_iff_getElem.2 ⟨n - 1, by rw [List.length_take]; omega, List.getElem_take⟩
/-- Is a list a star. -/
def ryB (l : List Tm) : Bool := decide (l.length ≤ 10) && ryUp l l.length
theorem ryB_iff (l : List Tm) : ryB l = true ↔ l.length ≤ 10 ∧ (∀ t ∈ l, ryT t = true) ∧ Srt l := by
  unfold ryB
  rw [Bool.and_eq_true, ryUp_iff l l.length (Nat.le_refl _), List.take_length, decide_eq_true_eq]
theorem ryB_end {l : List Tm} (h2 : l.length ≤ 10) (h : ryUp l l.length = true) : ryB l = true := by
  unfold ryB; rw [h, decide_eq_true h2]; rfl
theorem ryB_len {l : List Tm} (h : ¬ l.length ≤ 10) : ryB l = false := by
  unfold ryB; rw [decide_eq_false h]; rfl
theorem ryB_bad {l : List Tm} {k : Nat} (hk : k < l.length) (h : ryAt l k = false) : ryB l = false := by
  unfold ryB; rw [ryUp_bad h _ hk]; simp
theorem ryB_at {l : List Tm} (h : ryB l = true) {k : Nat} (hk : k < l.length) : ryT (td l k) = true := ((ryB_iff l).1 h).2.1 _ (td_mem hk)
theorem ryB_le {l : List Tm} (h : ryB l = true) : l.length ≤ 10 := ((ryB_iff l).1 h).1
theorem ryB_srt {l : List Tm} (h : ryB l = true) : Srt l := ((ryB_iff l).1 h).2.2
theorem ryAt_no1 {l : List Tm} {k : Nat} (h : ryT (td l k) = false) : ryAt l k = false := by simp [ryAt, h]
theorem ryAt_no2 {l : List Tm} {k : Nat} (h0 : 0 < k) (h : plLt (td l (k - 1)) (td l k) = false) : ryAt l k = false := by
  unfold ryAt; rw [h, decide_eq_false (by omega)]; simp
theorem ryAt_yes {l : List Tm} {k : Nat} (h : ryT (td l k) = true) (h' : k = 0 ∨ plLt (td l (k - 1)) (td l k) = true) : ryAt l k = true := by
  unfold ryAt
  rcases h' with rfl | h' <;> simp [h, *]
theorem ryUp_next {l : List Tm} {k : Nat} (h : ryUp l k = true) (h' : ryAt l k = true) : ryUp l (k + 1) = true := by simp [ryUp, h, h']

/-! ### Sums -/
/-- The sum of W times DX of the first rays. -/
def sxA (l : List Tm) : Nat → Int
  | 0 => 0
  | k + 1 => sxA l k + (td l k).2.2 * (td l k).1
def syA (l : List Tm) : Nat → Int
  | 0 => 0
  | k + 1 => syA l k + (td l k).2.2 * (td l k).2.1
theorem wd_bd {w x : Int} (hw : 1 ≤ w ∧ w ≤ 20) (hx : -20 ≤ x ∧ x ≤ 20) : -400 ≤ w * x ∧ w * x ≤ 400 := by
  have h1 : w * x ≤ w * 20 := Int.mul_le_mul_of_nonneg_left hx.2 (by omega)
  have h2 : w * (-20) ≤ w * x := Int.mul_le_mul_of_nonneg_left hx.1 (by omega)
  omega
theorem ry_bd {t : Tm} (h : ryT t = true) : (-400 ≤ t.2.2 * t.1 ∧ t.2.2 * t.1 ≤ 400) ∧ -400 ≤ t.2.2 * t.2.1 ∧ t.2.2 * t.2.1 ≤ 400 := by
  obtain ⟨h1, h2, h3, h4, -, h6, h7⟩ := ryT_parts h
  exact ⟨wd_bd ⟨h6, h7⟩ ⟨h1, h2⟩, wd_bd ⟨h6, h7⟩ ⟨h3, h4⟩⟩
theorem sA_bd {l : List Tm} (h : ryB l = true) : ∀ k, k ≤ l.length → (-(400 * k) ≤ sxA l k ∧ sxA l k ≤ 400 * k) ∧ -(400 * k) ≤ syA l k ∧ syA l k ≤ 400 * k
  | 0, _ => by simp [sxA, syA]
  | k + 1, hk => by
    have := sA_bd h k (by omega)
    have := ry_bd (ryB_at h (k := k) (by omega))
    unfold sxA syA
    omega
def sxR (l : List Tm) : Int := if ryB l = true then sxA l l.length else 0
def syR (l : List Tm) : Int := if ryB l = true then syA l l.length else 0
theorem sR_yes {l : List Tm} (h : ryB l = true) : sxR l = sxA l l.length ∧ syR l = syA l l.length := ⟨if_pos h, if_pos h⟩
theorem sR_no {l : List Tm} (h : ryB l = false) : sxR l = 0 ∧ syR l = 0 := ⟨if_neg (by simp [h]), if_neg (by simp [h])⟩
theorem sA_end {l : List Tm} (h : ryB l = true) : (-4000 ≤ sxA l l.length ∧ sxA l l.length ≤ 4000) ∧ -4000 ≤ syA l l.length ∧ syA l l.length ≤ 4000 := by
  have := sA_bd h l.length (Nat.le_refl _)
  have := ryB_le h
  omega
/-- Is a star balanced. -/
def baB (l : List Tm) : Bool := ryB l && (decide (sxA l l.length = 0) && decide (syA l l.length = 0))

/-! ### Rays put into a list -/
/-- A list of terms with one more, or with a greater weight. -/
def putR : List Tm → Tm → List Tm
  | [], t => [t]
  | a :: r, t => if plLt a t = true then a :: putR r t else if plLt t a = true then t :: a :: r else (t.1, t.2.1, t.2.2 + a.2.2) :: r
theorem putR_len : ∀ (l : List Tm) (t : Tm), (putR l t).length ≤ l.length + 1
  | [], _ => by simp [putR]
  | a :: r, t => by
    have := putR_len r t
    unfold putR
    split
    · simp only [List.length_cons]; omega
    · split <;> simp
/-- Where a term goes. -/
theorem putR_at (t : Tm) : ∀ (k : Nat) (l : List Tm), (∀ j, j < k → j < l.length ∧ plLt (td l j) t = true) → (k < l.length → plLt (td l k) t = false) →
    putR l t = l.take k ++ (if k < l.length ∧ plLt t (td l k) = false then (t.1, t.2.1, t.2.2 + (td l k).2.2) :: l.drop (k + 1) else t :: l.drop k)
  | 0, [], _, _ => by simp [putR]
  | 0, a :: r, _, h2 => by
    have h := h2 (by simp)
    simp only [td, List.getD_cons_zero] at h ⊢
    unfold putR
    rw [h]
    cases h3 : plLt t a <;> simp
  | k + 1, [], h1, _ => by have := (h1 0 (by omega)).1; simp at this
  | k + 1, a :: r, h1, h2 => by
    have h0 := (h1 0 (by omega)).2
    simp only [td, List.getD_cons_zero] at h0
    unfold putR
    rw [if_pos h0, putR_at t k r (fun j hj => by have := h1 (j + 1) (by omega); simpa [td] using this) (fun hk => by have := h2 (by simpa using hk); simpa [td] using this)]
    simp [td]
theorem mem_putR (t : Tm) : ∀ (l : List Tm), Srt l → ∀ s, (s ∈ putR l t ↔ (s ∈ l ∧ ¬ Same s t) ∨ (Same s t ∧ ((s = t ∧ ∀ a ∈ l, ¬ Same a t) ∨ ∃ a ∈ l, Same a t ∧ s.2.2 = t.2.2 + a.2.2)))
  | [], _, s => by
    simp only [putR, List.mem_singleton]
    constructor
    · rintro rfl; exact .inr ⟨⟨rfl, rfl⟩, .inl ⟨rfl, by simp⟩⟩
    · rintro (⟨h, -⟩ | ⟨-, ⟨h, -⟩ | ⟨a, h, -⟩⟩)
      · simp at h
      · exact h
      · simp at h
  | a :: r, hs, s => by
    have hr : Srt r := (List.pairwise_cons.1 hs).2
    have ha := (List.pairwise_cons.1 hs).1
    unfold putR
    split
    · rename_i h1
      have hna : ¬ Same a t := fun h => by have := sameT_no h; rw [h1] at this; cases this
      rw [List.mem_cons, mem_putR t r hr s]
      constructor
      · rintro (rfl | ⟨h, hn⟩ | ⟨hst, ⟨rfl, hall⟩ | ⟨b, hb, hbt, he⟩⟩)
        · exact .inl ⟨List.mem_cons_self, hna⟩
        · exact .inl ⟨List.mem_cons_of_mem _ h, hn⟩
        · refine .inr ⟨hst, .inl ⟨rfl, fun b hb => ?_⟩⟩
          rcases List.mem_cons.1 hb with rfl | hb
          · exact hna
          · exact hall b hb
        · exact .inr ⟨hst, .inr ⟨b, List.mem_cons_of_mem _ hb, hbt, he⟩⟩
      · rintro (⟨h, hn⟩ | ⟨hst, ⟨rfl, hall⟩ | ⟨b, hb, hbt, he⟩⟩)
        · rcases List.mem_cons.1 h with rfl | h
          · exact .inl rfl
          · exact .inr (.inl ⟨h, hn⟩)
        · exact .inr (.inr ⟨hst, .inl ⟨rfl, fun b hb => hall b (List.mem_cons_of_mem _ hb)⟩⟩)
        · rcases List.mem_cons.1 hb with rfl | hb
          · exact absurd hbt hna
          · exact .inr (.inr ⟨hst, .inr ⟨b, hb, hbt, he⟩⟩)
    · rename_i h1
      have h1 : plLt a t = false := by simpa using h1
      split
      · rename_i h2
        have hno : ∀ b ∈ a :: r, ¬ Same b t := fun b hb h => by
          have h3 : plLt t b = true := by
            rcases List.mem_cons.1 hb with rfl | hb
            · exact h2
            · exact plLt_trans h2 (ha b hb)
          have := sameT_no (a := t) (b := b) ⟨h.1.symm, h.2.symm⟩
          rw [h3] at this; cases this
        rw [List.mem_cons]
        constructor
        · rintro (rfl | h)
          · exact .inr ⟨⟨rfl, rfl⟩, .inl ⟨rfl, hno⟩⟩
          · exact .inl ⟨h, hno s h⟩
        · rintro (⟨h, -⟩ | ⟨-, ⟨h, -⟩ | ⟨b, hb, hbt, -⟩⟩)
          · exact .inr h
          · exact .inl h
          · exact absurd hbt (hno b hb)
      · rename_i h2
        have h2 : plLt t a = false := by simpa using h2
        have hat := sameT_of h1 h2
        have hno : ∀ b ∈ r, ¬ Same b t := fun b hb h => by
          have h3 := ha b hb
          rw [plLt_iff] at h3
          unfold Same at h hat
          omega
        rw [List.mem_cons]
        constructor
        · rintro (rfl | h)
          · exact .inr ⟨⟨rfl, rfl⟩, .inr ⟨a, List.mem_cons_self, hat, rfl⟩⟩
          · exact .inl ⟨List.mem_cons_of_mem _ h, hno s h⟩
        · rintro (⟨h, hn⟩ | ⟨hst, ⟨rfl, hall⟩ | ⟨b, hb, hbt, he⟩⟩)
          · rcases List.mem_cons.1 h with rfl | h
            · exact absurd hat hn
            · exact .inr h
          · exact absurd hat (hall a List.mem_cons_self)
          · rcases List.mem_cons.1 hb with rfl | hb
            · exact .inl (tm_ext hst he)
            · exact absurd hbt (hno b hb)
theorem srt_putR (t : Tm) : ∀ (l : List Tm), Srt l → Srt (putR l t)
  | [], _ => by simp [putR, Srt]
  | a :: r, hs => by
    have hr : Srt r := (List.pairwise_cons.1 hs).2
    have ha := (List.pairwise_cons.1 hs).1
    unfold putR
    split
    · rename_i h1
      refine List.pairwise_cons.2 ⟨fun b hb => ?_, srt_putR t r hr⟩
      rcases (mem_putR t r hr b).1 hb with ⟨h, -⟩ | ⟨h, -⟩
      · exact ha b h
      · rw [plLt_iff] at h1 ⊢; unfold Same at h; omega
    · rename_i h1
      have h1 : plLt a t = false := by simpa using h1
      split
      · rename_i h2
        refine List.pairwise_cons.2 ⟨fun b hb => ?_, hs⟩
        rcases List.mem_cons.1 hb with rfl | hb
        · exact h2
        · exact plLt_trans h2 (ha b hb)
      · rename_i h2
        have hat := sameT_of h1 (by simpa using h2)
        refine List.pairwise_cons.2 ⟨fun b hb => ?_, hr⟩
        have := ha b hb
        rw [plLt_iff] at this ⊢
        unfold Same at hat
        simp only
        omega
/-- All rays of a list, put in one by one. -/
def normR (ts : List Tm) : List Tm := ts.foldl putR []
theorem normR_snoc (ts : List Tm) (t : Tm) : normR (ts ++ [t]) = putR (normR ts) t := by unfold normR; rw [List.foldl_append]; rfl
theorem normR_app (a b : List Tm) : normR (a ++ b) = b.foldl putR (normR a) := by unfold normR; rw [List.foldl_append]
/-- The sum of the weights of the rays with the same steps. -/
def wtS (ts : List Tm) (t : Tm) : Int := (ts.map fun u => if sameTB u t = true then u.2.2 else 0).sum
theorem wtS_nil (t : Tm) : wtS [] t = 0 := rfl
theorem wtS_snoc (ts : List Tm) (u t : Tm) : wtS (ts ++ [u]) t = wtS ts t + if sameTB u t = true then u.2.2 else 0 := by simp [wtS]
theorem wtS_none {ts : List Tm} {t : Tm} (h : ∀ u ∈ ts, ¬ Same u t) : wtS ts t = 0 := by
  induction ts with
  | nil => rfl
  | cons a r ih =>
    have h1 := ih fun u hu => h u (List.mem_cons_of_mem _ hu)
    have h2 : sameTB a t = false := by
      have := h a List.mem_cons_self
      rw [← sameTB_iff] at this; simpa using this
    unfold wtS at *
    simp [h2, h1]
theorem sameT_symm {a b : Tm} (h : Same a b) : Same b a := ⟨h.1.symm, h.2.symm⟩
theorem sameT_trans {a b c : Tm} (h : Same a b) (h' : Same b c) : Same a c := ⟨h.1.trans h'.1, h.2.trans h'.2⟩
theorem wtS_same {ts : List Tm} {s t : Tm} (h : Same s t) : wtS ts s = wtS ts t := by
  unfold wtS
  congr 1
  refine List.map_congr_left fun u _ => ?_
  have : sameTB u s = sameTB u t := by
    rw [Bool.eq_iff_iff, sameTB_iff, sameTB_iff]
    exact ⟨fun h1 => sameT_trans h1 h, fun h1 => sameT_trans h1 (sameT_symm h)⟩
  rw [this]
theorem perm_sumI {a b : List Int} (h : a.Perm b) : a.sum = b.sum := by
  induction h with
  | nil => rfl
  | cons x _ ih => simp [ih]
  | swap x y l => simp only [List.sum_cons]; omega
  | trans _ _ h1 h2 => exact h1.trans h2
/-- The rays with the steps of a list's rays and the sums of their weights. -/
def MsR (ts : List Tm) (s : Tm) : Prop := (∃ u ∈ ts, Same u s) ∧ s.2.2 = wtS ts s
theorem msR_perm {a b : List Tm} (h : a.Perm b) (s : Tm) : MsR a s ↔ MsR b s := by
  have hw : wtS a s = wtS b s := perm_sumI (h.map _)
  unfold MsR
  rw [hw]
  constructor <;> rintro ⟨⟨u, hu, hus⟩, h2⟩ <;> exact ⟨⟨u, by first | exact h.mem_iff.1 hu | exact h.mem_iff.2 hu, hus⟩, h2⟩
theorem normR_ok (ts : List Tm) : Srt (normR ts) ∧ ∀ s, s ∈ normR ts ↔ MsR ts s := by
  have key : ∀ n, n ≤ ts.length → Srt (normR (ts.take n)) ∧ ∀ s, s ∈ normR (ts.take n) ↔ MsR (ts.take n) s := by
    intro n
    induction n with
    | zero => intro _; exact ⟨by simp [normR, Srt], fun s => by simp [normR, MsR]⟩
    | succ n ih =>
      intro hn
      obtain ⟨h1, h2⟩ := ih (by omega)
      rw [take_td ts n (by omega), normR_snoc]
      generalize ts.take n = us at h1 h2
      generalize td ts n = t
      refine ⟨srt_putR t _ h1, fun s => ?_⟩
      rw [mem_putR t _ h1 s]
      -- a ray of the list so far, with the steps of one that came
      have hex : ∀ u ∈ us, ∃ m ∈ normR us, Same m u ∧ m.2.2 = wtS us m := fun u hu =>
        ⟨(u.1, u.2.1, wtS us u), (h2 _).2 ⟨⟨u, hu, rfl, rfl⟩, wtS_same (s := u) (t := (u.1, u.2.1, wtS us u)) ⟨rfl, rfl⟩⟩, ⟨rfl, rfl⟩, wtS_same (s := u) (t := (u.1, u.2.1, wtS us u)) ⟨rfl, rfl⟩⟩
      unfold MsR
      rw [wtS_snoc]
      constructor
      · rintro (⟨h, hn⟩ | ⟨hst, ⟨rfl, hall⟩ | ⟨a, ha, hat, he⟩⟩)
        · obtain ⟨⟨u, hu, hus⟩, h4⟩ := (h2 s).1 h
          have : sameTB t s = false := by
            rw [← Bool.not_eq_true, sameTB_iff]; exact fun h => hn (sameT_symm h)
          refine ⟨⟨u, List.mem_append_left _ hu, hus⟩, ?_⟩
          rw [h4, this]; simp
        · refine ⟨⟨s, by simp, rfl, rfl⟩, ?_⟩
          rw [wtS_none fun u hu hus => ?_, (sameTB_iff s s).2 ⟨rfl, rfl⟩]
          · simp
          · obtain ⟨m, hm, hmu, -⟩ := hex u hu
            exact hall m hm (sameT_trans hmu hus)
        · obtain ⟨-, h4⟩ := (h2 a).1 ha
          refine ⟨⟨t, by simp, sameT_symm hst⟩, ?_⟩
          rw [(sameTB_iff t s).2 (sameT_symm hst), he, h4, wtS_same (sameT_trans hat (sameT_symm hst)), if_pos rfl]
          omega
      · rintro ⟨⟨u, hu, hus⟩, h4⟩
        by_cases hst : Same s t
        · refine .inr ⟨hst, ?_⟩
          rw [(sameTB_iff t s).2 (sameT_symm hst), if_pos rfl] at h4
          by_cases hall : ∀ a ∈ normR us, ¬ Same a t
          · refine .inl ⟨tm_ext hst ?_, hall⟩
            rw [wtS_none fun v hv hvs => ?_] at h4
            · omega
            · obtain ⟨m, hm, hmv, -⟩ := hex v hv
              exact hall m hm (sameT_trans hmv (sameT_trans hvs hst))
          · refine .inr ?_
            simp only [Classical.not_forall, Classical.not_not] at hall
            obtain ⟨a, ha, hat⟩ := hall
            obtain ⟨-, h5⟩ := (h2 a).1 ha
            refine ⟨a, ha, hat, ?_⟩
            rw [h4, h5, wtS_same (sameT_trans hat (sameT_symm hst))]
            omega
        · refine .inl ⟨(h2 s).2 ⟨?_, ?_⟩, hst⟩
          · rcases List.mem_append.1 hu with hu | hu
            · exact ⟨u, hu, hus⟩
            · rw [List.mem_singleton.1 hu] at hus
              exact absurd (sameT_symm hus) hst
          · have : sameTB t s = false := by
              rw [← Bool.not_eq_true, sameTB_iff]; exact fun h => hst (sameT_symm h)
            rw [h4, this]; simp
  have := key ts.length (Nat.le_refl _)
  rwa [List.take_length] at this
theorem normR_perm {a b : List Tm} (h : a.Perm b) : normR a = normR b :=
  srt_unique _ _ (normR_ok a).1 (normR_ok b).1 fun s => by rw [(normR_ok a).2, (normR_ok b).2, msR_perm h]
/-- Rays in order are put in as they are. -/
theorem normR_srt {l : List Tm} (h : Srt l) : normR l = l := by
  obtain ⟨h1, h2⟩ := normR_ok l
  have hu : ∀ u ∈ l, ∀ s ∈ l, Same u s → u = s := by
    intro u hu s hs hus
    obtain ⟨i, hi, rfl⟩ := List.mem_iff_getElem.1 hu
    obtain ⟨j, hj, rfl⟩ := List.mem_iff_getElem.1 hs
    by_cases hij : i = j
    · subst hij; rfl
    · rcases Nat.lt_or_gt_of_ne hij with hlt | hlt
      · have := List.pairwise_iff_getElem.1 h i j hi hj hlt
        rw [sameT_no hus] at this; cases this
      · have := List.pairwise_iff_getElem.1 h j i hj hi hlt
        rw [sameT_no (sameT_symm hus)] at this; cases this
  have hw : ∀ (m : List Tm), Srt m → ∀ s ∈ m, wtS m s = s.2.2 := by
    intro m
    induction m with
    | nil => intro _ s hs; simp at hs
    | cons a r ih =>
      intro hm s hs
      have ha := (List.pairwise_cons.1 hm).1
      have hr := (List.pairwise_cons.1 hm).2
      have hc : wtS (a :: r) s = (if sameTB a s = true then a.2.2 else 0) + wtS r s := by simp [wtS]
      rw [hc]
      rcases List.mem_cons.1 hs with rfl | hs
      · rw [(sameTB_iff s s).2 ⟨rfl, rfl⟩, wtS_none fun u hu hus => ?_]
        · simp
        · have := ha u hu
          rw [sameT_no (sameT_symm hus)] at this; cases this
      · have : sameTB a s = false := by
          rw [← Bool.not_eq_true, sameTB_iff]
          intro hh
          have := ha s hs
          rw [sameT_no hh] at this; cases this
        rw [this, ih hr s hs]; simp
  refine srt_unique _ _ h1 h fun s => ?_
  rw [h2 s]
  constructor
  · rintro ⟨⟨u, hu1, hus⟩, h4⟩
    have : u = s := tm_ext hus (by rw [h4, ← wtS_same hus, hw l h u hu1])
    rw [← this]; exact hu1
  · intro hs
    exact ⟨⟨s, hs, rfl, rfl⟩, (hw l h s hs).symm⟩
/-- Rays in order, but for several with the same steps. -/
def Wk (d : List Tm) : Prop := d.Pairwise fun a b => plLt b a = false
/-- A list whose last ray has the steps of one more gets its weight, or else the ray itself. -/
def mrgR (acc : List Tm) (t : Tm) : List Tm :=
  if acc ≠ [] ∧ sameTB (td acc (acc.length - 1)) t = true then acc.take (acc.length - 1) ++ [(t.1, t.2.1, t.2.2 + (td acc (acc.length - 1)).2.2)] else acc ++ [t]
theorem mrg_put {acc : List Tm} {t : Tm} (hs : Srt acc) (h : ∀ a ∈ acc, plLt t a = false) : mrgR acc t = putR acc t := by
  have hat : ∀ j, j < acc.length → plLt t (td acc j) = false := fun j hj => h _ (td_mem hj)
  unfold mrgR
  split
  · rename_i hc
    obtain ⟨h1, h2⟩ := hc
    have h0 : 0 < acc.length := List.length_pos_iff.2 h1
    have h2 := (sameTB_iff _ _).1 h2
    rw [putR_at t (acc.length - 1) acc (fun j hj => ⟨by omega, ?_⟩) (fun _ => sameT_no h2)]
    · rw [if_pos ⟨by omega, hat _ (by omega)⟩, show acc.length - 1 + 1 = acc.length by omega, List.drop_length]
    · have := List.pairwise_iff_getElem.1 hs j (acc.length - 1) (by omega) (by omega) hj
      rw [← td_eq _ _ (by omega), ← td_eq _ _ (by omega)] at this
      rw [plLt_iff] at this ⊢
      unfold Same at h2
      omega
  · rename_i hc
    rw [putR_at t acc.length acc (fun j hj => ⟨hj, ?_⟩) (fun hh => absurd hh (Nat.lt_irrefl _))]
    · rw [if_neg (fun hh => absurd hh.1 (Nat.lt_irrefl _)), List.take_length, List.drop_length]
    · have hlast : plLt (td acc (acc.length - 1)) t = true := by
        cases hl : plLt (td acc (acc.length - 1)) t
        · exfalso
          exact hc ⟨by intro he; rw [he] at hj; simp at hj, (sameTB_iff _ _).2 (sameT_of hl (hat _ (by omega)))⟩
        · rfl
      by_cases hj' : j = acc.length - 1
      · rw [hj']; exact hlast
      · have := List.pairwise_iff_getElem.1 hs j (acc.length - 1) (by omega) (by omega) (by omega)
        rw [← td_eq _ _ (by omega), ← td_eq _ _ (by omega)] at this
        exact plLt_trans this hlast
/-- The rays of a list in order, those with the same steps made one. -/
def mrgN (d : List Tm) : Nat → List Tm
  | 0 => []
  | k + 1 => mrgR (mrgN d k) (td d k)
theorem mrgN_norm {d : List Tm} (h : Wk d) : ∀ k, k ≤ d.length → mrgN d k = normR (d.take k)
  | 0, _ => rfl
  | k + 1, hk => by
    rw [mrgN, mrgN_norm h k (by omega), take_td d k (by omega), normR_snoc]
    refine mrg_put (normR_ok _).1 fun a ha => ?_
    obtain ⟨⟨u, hu, hus⟩, -⟩ := ((normR_ok _).2 a).1 ha
    obtain ⟨j, hj, hjl, rfl⟩ := mem_take_td hu
    have := List.pairwise_iff_getElem.1 h j k hjl (by omega) hj
    rw [← td_eq _ _ hjl, ← td_eq _ _ (by omega)] at this
    rw [plLt_no] at this ⊢
    unfold Same at hus
    omega
theorem mrgN_all {d m : List Tm} (h : Wk d) (hp : d.Perm m) : mrgN d d.length = normR m := by
  rw [mrgN_norm h _ (Nat.le_refl _), List.take_length, normR_perm hp]
theorem mrgR_len (acc : List Tm) (t : Tm) : (mrgR acc t).length ≤ acc.length + 1 := by
  unfold mrgR; split <;> simp
theorem mrgN_len (d : List Tm) : ∀ k, (mrgN d k).length ≤ k
  | 0 => by simp [mrgN]
  | k + 1 => by have := mrgR_len (mrgN d k) (td d k); have := mrgN_len d k; unfold mrgN; omega
/-- Rays with different steps, in order: they are as they are put in. -/
theorem sort_put {d m : List Tm} (h : Wk d) (hp : d.Perm m) (hd : m.Pairwise fun a b => ¬ Same a b) : d = normR m := by
  have hs : Srt d := by
    have h2 : d.Pairwise fun a b => ¬ Same a b := (hp.pairwise_iff (fun {x y} hxy h => hxy (sameT_symm h))).2 hd
    refine List.Pairwise.imp₂ ?_ h h2
    intro a b h3 h4
    cases h5 : plLt a b
    · exact absurd (sameT_of h5 h3) h4
    · rfl
  rw [← normR_srt hs]
  exact normR_perm hp
theorem normR_len (ts : List Tm) : (normR ts).length ≤ ts.length := by
  have : ∀ (ts l : List Tm), (ts.foldl putR l).length ≤ l.length + ts.length := by
    intro ts
    induction ts with
    | nil => intro l; simp
    | cons t ts ih => intro l; have h1 := ih (putR l t); have h2 := putR_len l t; simp only [List.foldl_cons, List.length_cons]; omega
  have := this ts []
  simpa [normR] using this
theorem srt_diff {m : List Tm} (h : Srt m) : m.Pairwise fun a b => ¬ Same a b :=
  List.Pairwise.imp (fun {a b} h h' => by rw [sameT_no h'] at h; cases h) h
/-- A star, or nothing. -/
def stR (l : List Tm) : List Tm := if ryB l = true then l else []
theorem stR_yes {l : List Tm} (h : ryB l = true) : stR l = l := if_pos h
theorem stR_no {l : List Tm} (h : ryB l = false) : stR l = [] := if_neg (by simp [h])
theorem stR_le (l : List Tm) : (stR l).length ≤ 10 := by
  unfold stR; split
  · rename_i h; exact ryB_le h
  · simp
end Go.Proofs.Ytijmnbgmpakllaa
