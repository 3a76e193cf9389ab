/-
  Polynomials in two unknowns, as lists of terms (I, J, C): plain mathematics.
  No condition.
-/
import Derived.Test.YtijmnbgmpakllaaTrop
namespace Go.Proofs.Ytijmnbgmpakllaa
set_option linter.unusedSimpArgs false
set_option linter.unusedVariables false

abbrev Tm := Int × Int × Int
/-- The term at a place. -/
def td (l : List Tm) (k : Nat) : Tm := l.getD k (0, 0, 0)
theorem td_eq (l : List Tm) (k : Nat) (hk : k < l.length) : td l k = l[k] := by
  unfold td; rw [List.getD_eq_getElem?_getD, List.getElem?_eq_getElem hk]; rfl
theorem td_mem {l : List Tm} {k : Nat} (hk : k < l.length) : td l k ∈ l := by rw [td_eq l k hk]; exact List.getElem_mem hk
theorem take_td (l : List Tm) (k : Nat) (hk : k < l.length) : l.take (k + 1) = l.take k ++ [td l k] := by
  rw [td_eq l k hk, List.take_succ_eq_append_getElem hk]
theorem mem_td {l : List Tm} {t : Tm} (h : t ∈ l) : ∃ k, k < l.length ∧ td l k = t := by
  obtain ⟨k, hk, rfl⟩ := List.mem_iff_getElem.1 h
  exact ⟨k, hk, td_eq l k hk⟩
theorem mem_take_td {l : List Tm} {t : Tm} {n : Nat} (h : t ∈ l.take n) : ∃ k, k < n ∧ k < l.length ∧ td l k = t := by
  obtain ⟨k, hk, he⟩ := List.mem_iff_getElem.1 h
  rw [List.length_take] at hk
  refine ⟨k, by omega, by omega, ?_⟩
  rw [td_eq l k (by omega), ← he, List.getElem_take]
theorem td_map (f : Tm → Tm) (l : List Tm) (k : Nat) (hk : k < l.length) : td (l.map f) k = f (td l k) := by
  rw [td_eq _ _ (by simpa using hk), td_eq _ _ hk, List.getElem_map]
/-- Is a term valid. -/
def plT (t : Tm) : Bool := inB t.1 0 6 && (inB t.2.1 0 (6 - t.1) && finB t.2.2)
theorem plT_parts {t : Tm} (h : plT t = true) : 0 ≤ t.1 ∧ 0 ≤ t.2.1 ∧ t.1 + t.2.1 ≤ 6 ∧ -1000000 ≤ t.2.2 ∧ t.2.2 ≤ 1000000 := by
  unfold plT at h
  simp only [Bool.and_eq_true, inB_iff, finB_iff] at h
  omega
theorem plT_of {t : Tm} (h1 : 0 ≤ t.1) (h2 : 0 ≤ t.2.1) (h3 : t.1 + t.2.1 ≤ 6) (h4 : -1000000 ≤ t.2.2) (h5 : t.2.2 ≤ 1000000) : plT t = true := by
  unfold plT
  simp only [Bool.and_eq_true, inB_iff, finB_iff]
  omega
/-- Do the exponents of a term come before those of another one. -/
def plLt (a b : Tm) : Bool := decide (a.1 < b.1) || (decide (a.1 = b.1) && decide (a.2.1 < b.2.1))
theorem plLt_iff (a b : Tm) : plLt a b = true ↔ a.1 < b.1 ∨ (a.1 = b.1 ∧ a.2.1 < b.2.1) := by unfold plLt; simp
theorem plLt_no (a b : Tm) : plLt a b = false ↔ ¬ (a.1 < b.1 ∨ (a.1 = b.1 ∧ a.2.1 < b.2.1)) := by rw [← plLt_iff]; simp
theorem plLt_trans {a b c : Tm} (h : plLt a b = true) (h' : plLt b c = true) : plLt a c = true := by rw [plLt_iff] at *; omega
def Srt (l : List Tm) : Prop := l.Pairwise fun a b => plLt a b = true
/-- Is the term at a place valid, and behind the one before it. -/
def plAt (l : List Tm) (k : Nat) : Bool := plT (td l k) && (decide (k = 0) || plLt (td l (k - 1)) (td l k))
def plUp (l : List Tm) : Nat → Bool
  | 0 => true
  | k + 1 => plUp l k && plAt l k
theorem plUp_bad {l : List Tm} {k : Nat} (h : plAt l k = false) : ∀ n, k < n → plUp l n = false
  | 0, hk => by omega
  | n + 1, hk => by
    by_cases he : k = n
    · subst he; simp [plUp, h]
    · simp [plUp, plUp_bad h n (by omega)]
/-- Is a list a plane polynomial. -/
def plB (l : List Tm) : Bool := inB l.length 1 12 && plUp l l.length
theorem plUp_iff (l : List Tm) : ∀ n, n ≤ l.length → (plUp l n = true ↔ (∀ t ∈ l.take n, plT t = true) ∧ Srt (l.take n))
  | 0, _ => by simp [plUp, Srt]
  | n + 1, h => by
    rw [plUp, Bool.and_eq_true, plUp_iff l n (by omega), take_td l n (by omega)]
    unfold Srt plAt
    rw [List.pairwise_append]
    constructor
    · rintro ⟨⟨h1, h2⟩, h3⟩
      simp only [Bool.and_eq_true, Bool.or_eq_true, decide_eq_true_eq] at h3
      refine ⟨fun t ht => ?_, h2, by simp, fun a ha b hb => ?_⟩
      · rcases List.mem_append.1 ht with ht | ht
        · exact h1 t ht
        · rw [List.mem_singleton.1 ht]; exact h3.1
      · rw [List.mem_singleton.1 hb]
        obtain ⟨k, hk, hkl, rfl⟩ := mem_take_td ha
        rcases h3.2 with h0 | h3
        · omega
        · by_cases he : k = n - 1
          · rw [he]; exact h3
          · refine plLt_trans ?_ h3
            have hp := List.pairwise_iff_getElem.1 h2 k (n - 1) (by rw [List.length_take]; omega) (by rw [List.length_take]; omega) (by omega)
            rw [List.getElem_take, List.getElem_take] at hp
            rw [td_eq l k hkl, td_eq l (n - 1) (by omega)]
            exact hp
    · rintro ⟨h1, h2, -, h4⟩
      refine ⟨⟨fun t ht => h1 t (List.mem_append_left _ ht), h2⟩, ?_⟩
      simp only [Bool.and_eq_true, Bool.or_eq_true, decide_eq_true_eq]
      refine ⟨h1 _ (by simp), ?_⟩
      by_cases h0 : n = 0
      · exact .inl h0
      · refine .inr (h4 _ ?_ _ (by simp))
        rw [td_eq l (n - 1) (by omega)]
        exact List.mem_iff_getElem.2 ⟨n - 1, by rw [List.length_take]; omega, List.getElem_take⟩
theorem plB_iff (l : List Tm) : plB l = true ↔ (1 ≤ l.length ∧ l.length ≤ 12) ∧ (∀ t ∈ l, plT t = true) ∧ Srt l := by
  unfold plB
  rw [Bool.and_eq_true, plUp_iff l l.length (Nat.le_refl _), List.take_length, inB_iff]
  have : ((1 : Int) ≤ l.length ∧ (l.length : Int) ≤ 12) ↔ (1 ≤ l.length ∧ l.length ≤ 12) := by omega
  rw [this]
theorem plB_end {l : List Tm} (h1 : 1 ≤ l.length) (h2 : l.length ≤ 12) (h : plUp l l.length = true) : plB l = true := by
  unfold plB; rw [h, (inB_iff _ _ _).2 (by omega)]; rfl
theorem plB_len {l : List Tm} (h : ¬ (1 ≤ l.length ∧ l.length ≤ 12)) : plB l = false := by
  cases hb : plB l
  · rfl
  · exact absurd ((plB_iff l).1 hb).1 h
theorem plB_bad {l : List Tm} {k : Nat} (hk : k < l.length) (h : plAt l k = false) : plB l = false := by
  unfold plB; rw [plUp_bad h _ hk]; simp
theorem plB_at {l : List Tm} (h : plB l = true) {k : Nat} (hk : k < l.length) : plT (td l k) = true := ((plB_iff l).1 h).2.1 _ (td_mem hk)
theorem plB_le {l : List Tm} (h : plB l = true) : 1 ≤ l.length ∧ l.length ≤ 12 := ((plB_iff l).1 h).1

/-! ### Values -/
def tv (t : Tm) (x y : Int) : Int := t.2.2 + t.1 * x + t.2.1 * y
def tvs (l : List Tm) (x y : Int) : List Int := l.map fun t => tv t x y
theorem tvs_len (l : List Tm) (x y : Int) : (tvs l x y).length = l.length := by simp [tvs]
theorem tvs_gd (l : List Tm) (x y : Int) (k : Nat) (hk : k < l.length) : gd (tvs l x y) k = tv (td l k) x y := by
  rw [gd_eq _ _ (by rw [tvs_len]; exact hk), td_eq l k hk]; simp [tvs]
theorem tvs_next (l : List Tm) (x y : Int) (k : Nat) (hk : k < l.length) : tvs (l.take (k + 1)) x y = tvs (l.take k) x y ++ [tv (td l k) x y] := by
  rw [take_td l k hk]; simp [tvs]
theorem pm_bd {a k : Int} (ha : -1000000 ≤ a ∧ a ≤ 1000000) (hk : 0 ≤ k ∧ k ≤ 6) : k * -1000000 ≤ k * a ∧ k * a ≤ k * 1000000 := by
  have : k = 0 ∨ k = 1 ∨ k = 2 ∨ k = 3 ∨ k = 4 ∨ k = 5 ∨ k = 6 := by omega
  rcases this with rfl | rfl | rfl | rfl | rfl | rfl | rfl <;> omega
theorem tv_bd {t : Tm} {x y : Int} (h : plT t = true) (hx : -1000000 ≤ x ∧ x ≤ 1000000) (hy : -1000000 ≤ y ∧ y ≤ 1000000) : (-6000000 ≤ t.1 * x ∧ t.1 * x ≤ 6000000) ∧ (-6000000 ≤ t.2.1 * y ∧ t.2.1 * y ≤ 6000000) ∧ -7000000 ≤ tv t x y ∧ tv t x y ≤ 7000000 := by
  obtain ⟨h1, h2, h3, h4, h5⟩ := plT_parts h
  have p := pm_bd hx (k := t.1) (by omega)
  have q := pm_bd hy (k := t.2.1) (by omega)
  unfold tv
  omega
/-- The least value on the way, from that of the first term on. -/
def lwV (l : List Tm) (x y : Int) (k : Nat) : Int := (tvs (l.take k) x y).foldl lessI (tv (td l 0) x y)
theorem lwV_next (l : List Tm) (x y : Int) (k : Nat) (hk : k < l.length) : lwV l x y (k + 1) = lessI (lwV l x y k) (tv (td l k) x y) := by
  unfold lwV; rw [tvs_next l x y k hk, List.foldl_append]; rfl
theorem lwV_bd {l : List Tm} {x y : Int} (h : plB l = true) (hx : -1000000 ≤ x ∧ x ≤ 1000000) (hy : -1000000 ≤ y ∧ y ≤ 1000000) : ∀ k, k ≤ l.length → -7000000 ≤ lwV l x y k ∧ lwV l x y k ≤ 7000000
  | 0, _ => (tv_bd (plB_at h (plB_le h).1) hx hy).2.2
  | k + 1, hk => by
    rw [lwV_next l x y k hk]
    have h1 := lwV_bd h hx hy k (by omega)
    have h2 := (tv_bd (plB_at h (k := k) hk) hx hy).2.2
    unfold lessI; split <;> omega
theorem lwV_end {l : List Tm} {x y : Int} (h : plB l = true) (hx : -1000000 ≤ x ∧ x ≤ 1000000) (hy : -1000000 ≤ y ∧ y ≤ 1000000) : lwV l x y l.length = leastL (tvs l x y) := by
  have hb := (tv_bd (plB_at h (plB_le h).1) hx hy).2.2
  have h1 := (plB_le h).1
  unfold lwV
  rw [List.take_length]
  match l, h1, hb with
  | a :: r, _, hb =>
    simp only [td, List.getD_cons_zero] at hb ⊢
    unfold leastL tvs
    rw [List.map_cons, List.foldl_cons, List.foldl_cons]
    congr 1
    unfold lessI
    rw [if_neg (by omega), if_neg (by omega)]
theorem least_tvs {l : List Tm} {x y : Int} (h : plB l = true) (hx : -1000000 ≤ x ∧ x ≤ 1000000) (hy : -1000000 ≤ y ∧ y ≤ 1000000) : -7000000 ≤ leastL (tvs l x y) ∧ leastL (tvs l x y) ≤ 7000000 := by
  rw [← lwV_end h hx hy]; exact lwV_bd h hx hy _ (Nat.le_refl _)
def askPl (l : List Tm) (x y : Int) : Bool := plB l && (finB x && (finB y && finB (leastL (tvs l x y))))
def pvPl (l : List Tm) (x y : Int) : Int := if askPl l x y = true then leastL (tvs l x y) else 0
theorem askPl_parts {l : List Tm} {x y : Int} (h : askPl l x y = true) : plB l = true ∧ finB x = true ∧ finB y = true ∧ finB (leastL (tvs l x y)) = true := by
  unfold askPl at h; simpa using h
theorem askPl_num {l : List Tm} {x y : Int} (h : plB l = true) (hx : finB x = true) (hy : finB y = true) : askPl l x y = numB (leastL (tvs l x y)) ∧ pvPl l x y = orZ (leastL (tvs l x y)) := by
  have hb := least_tvs h ((finB_iff x).1 hx) ((finB_iff y).1 hy)
  have h1 : askPl l x y = finB (leastL (tvs l x y)) := by unfold askPl; rw [h, hx, hy]; rfl
  have h2 : finB (leastL (tvs l x y)) = numB (leastL (tvs l x y)) := by
    unfold numB finB
    rw [show (leastL (tvs l x y) == 1000000000) = false by simp; omega]
    rfl
  refine ⟨h1.trans h2, ?_⟩
  unfold pvPl orZ
  rw [h1, h2]
theorem askPl_no1 {l : List Tm} {x y : Int} (h : plB l = false) : askPl l x y = false ∧ pvPl l x y = 0 := by
  have : askPl l x y = false := by unfold askPl; rw [h]; rfl
  exact ⟨this, by unfold pvPl; rw [this]; rfl⟩
theorem askPl_no2 {l : List Tm} {x y : Int} (h : finB x = false) : askPl l x y = false ∧ pvPl l x y = 0 := by
  have : askPl l x y = false := by unfold askPl; rw [h]; simp
  exact ⟨this, by unfold pvPl; rw [this]; rfl⟩
theorem askPl_no3 {l : List Tm} {x y : Int} (h : finB y = false) : askPl l x y = false ∧ pvPl l x y = 0 := by
  have : askPl l x y = false := by unfold askPl; rw [h]; simp
  exact ⟨this, by unfold pvPl; rw [this]; rfl⟩
theorem askPl_no4 {l : List Tm} {x y : Int} (h : finB (leastL (tvs l x y)) = false) : askPl l x y = false ∧ pvPl l x y = 0 := by
  have : askPl l x y = false := by unfold askPl; rw [h]; simp
  exact ⟨this, by unfold pvPl; rw [this]; rfl⟩
theorem pvPl_yes {l : List Tm} {x y : Int} (h : askPl l x y = true) : pvPl l x y = leastL (tvs l x y) := by unfold pvPl; rw [if_pos h]
/-- The places of the least value. -/
def plR (l : List Tm) (x y : Int) : List Int := if askPl l x y = true then places (tvs l x y) else []
theorem plR_yes {l : List Tm} {x y : Int} (h : askPl l x y = true) : plR l x y = places (tvs l x y) := if_pos h
theorem plR_no {l : List Tm} {x y : Int} (h : askPl l x y = false) : plR l x y = [] := if_neg (by simp [h])
theorem plR_le (l : List Tm) (x y : Int) : (plR l x y).length ≤ 12 := by
  cases h : askPl l x y
  · rw [plR_no h]; simp
  · rw [plR_yes h]
    have h1 := plc_len (tvs l x y) (leastL (tvs l x y)) (tvs l x y).length
    rw [tvs_len] at h1
    have h2 := (plB_le (askPl_parts h).1).2
    unfold places
    rw [tvs_len]
    omega

/-! ### Terms put into a list -/
def Same (a b : Tm) : Prop := a.1 = b.1 ∧ a.2.1 = b.2.1
theorem sameT_of {a b : Tm} (h : plLt a b = false) (h' : plLt b a = false) : Same a b := by
  rw [plLt_no] at *; unfold Same; omega
theorem sameT_no {a b : Tm} (h : Same a b) : plLt a b = false := by rw [plLt_no]; unfold Same at h; omega
def sameTB (a b : Tm) : Bool := decide (a.1 = b.1) && decide (a.2.1 = b.2.1)
theorem sameTB_iff (a b : Tm) : sameTB a b = true ↔ Same a b := by unfold sameTB Same; simp
/-- A list of terms with one more, or with the less coefficient. -/
def putL : List Tm → Tm → List Tm
  | [], t => [t]
  | a :: r, t => if plLt a t = true then a :: putL r t else if plLt t a = true then t :: a :: r else (t.1, t.2.1, lessI t.2.2 a.2.2) :: r
theorem put_len : ∀ (l : List Tm) (t : Tm), (putL l t).length ≤ l.length + 1
  | [], _ => by simp [putL]
  | a :: r, t => by
    have := put_len r t
    unfold putL
    split
    · simp only [List.length_cons]; omega
    · split <;> simp
/-- Where a term goes. -/
theorem put_at (t : Tm) : ∀ (k : Nat) (l : List Tm), (∀ j, j < k → j < l.length ∧ plLt (td l j) t = true) → (k < l.length → plLt (td l k) t = false) →
    putL l t = l.take k ++ (if k < l.length ∧ plLt t (td l k) = false then (t.1, t.2.1, lessI t.2.2 (td l k).2.2) :: l.drop (k + 1) else t :: l.drop k)
  | 0, [], _, _ => by simp [putL]
  | 0, a :: r, _, h2 => by
    have h := h2 (by simp)
    simp only [td, List.getD_cons_zero] at h ⊢
    unfold putL
    rw [h]
    cases h3 : plLt t a <;> simp
  | k + 1, [], h1, _ => by have := (h1 0 (by omega)).1; simp at this
  | k + 1, a :: r, h1, h2 => by
    have h0 := (h1 0 (by omega)).2
    simp only [td, List.getD_cons_zero] at h0
    unfold putL
    rw [if_pos h0, put_at t k r (fun j hj => by have := h1 (j + 1) (by omega); simpa [td] using this) (fun hk => by have := h2 (by simpa using hk); simpa [td] using this)]
    simp [td]
/-- All terms of a list, put in one by one. -/
def norm (ts : List Tm) : List Tm := ts.foldl putL []
theorem norm_snoc (ts : List Tm) (t : Tm) : norm (ts ++ [t]) = putL (norm ts) t := by unfold norm; rw [List.foldl_append]; rfl
theorem norm_app (a b : List Tm) : norm (a ++ b) = b.foldl putL (norm a) := by unfold norm; rw [List.foldl_append]
theorem norm_len (ts : List Tm) : (norm ts).length ≤ ts.length := by
  have : ∀ (ts l : List Tm), (ts.foldl putL l).length ≤ l.length + ts.length := by
    intro ts
    induction ts with
    | nil => intro l; simp
    | cons t ts ih => intro l; have h1 := ih (putL l t); have h2 := put_len l t; simp only [List.foldl_cons, List.length_cons]; omega
  have := this ts []
  simpa [norm] using this
/-- The least ones of a list, of those with the same exponents. -/
def Mn (ts : List Tm) (t : Tm) : Prop := t ∈ ts ∧ ∀ u ∈ ts, Same u t → t.2.2 ≤ u.2.2
theorem tm_ext {a b : Tm} (h : Same a b) (h' : a.2.2 = b.2.2) : a = b := by
  obtain ⟨a1, a2, a3⟩ := a
  obtain ⟨b1, b2, b3⟩ := b
  obtain ⟨h1, h2⟩ := h
  simp_all
theorem mem_put (t : Tm) : ∀ (l : List Tm), Srt l → ∀ s, (s ∈ putL l t ↔ (s ∈ l ∧ ¬ Same s t) ∨ (Same s t ∧ ((s = t ∧ ∀ a ∈ l, ¬ Same a t) ∨ ∃ a ∈ l, Same a t ∧ s.2.2 = lessI t.2.2 a.2.2)))
  | [], _, s => by
    simp only [putL, List.mem_singleton]
    constructor
    · rintro rfl; exact .inr ⟨⟨rfl, rfl⟩, .inl ⟨rfl, by simp⟩⟩
    · rintro (⟨h, -⟩ | ⟨-, ⟨h, -⟩ | ⟨a, h, -⟩⟩)
      · simp at h
      · exact h
      · simp at h
  | a :: r, hs, s => by
    have hr : Srt r := (List.pairwise_cons.1 hs).2
    have ha := (List.pairwise_cons.1 hs).1
    unfold putL
    split
    · rename_i h1
      have hna : ¬ Same a t := fun h => by have := sameT_no h; rw [h1] at this; cases this
      rw [List.mem_cons, mem_put t r hr s]
      constructor
      · rintro (rfl | ⟨h, hn⟩ | ⟨hst, ⟨rfl, hall⟩ | ⟨b, hb, hbt, he⟩⟩)
        · exact .inl ⟨List.mem_cons_self, hna⟩
        · exact .inl ⟨List.mem_cons_of_mem _ h, hn⟩
        · refine .inr ⟨hst, .inl ⟨rfl, fun b hb => ?_⟩⟩
          rcases List.mem_cons.1 hb with rfl | hb
          · exact hna
          · exact hall b hb
        · exact .inr ⟨hst, .inr ⟨b, List.mem_cons_of_mem _ hb, hbt, he⟩⟩
      · rintro (⟨h, hn⟩ | ⟨hst, ⟨rfl, hall⟩ | ⟨b, hb, hbt, he⟩⟩)
        · rcases List.mem_cons.1 h with rfl | h
          · exact .inl rfl
          · exact .inr (.inl ⟨h, hn⟩)
        · exact .inr (.inr ⟨hst, .inl ⟨rfl, fun b hb => hall b (List.mem_cons_of_mem _ hb)⟩⟩)
        · rcases List.mem_cons.1 hb with rfl | hb
          · exact absurd hbt hna
          · exact .inr (.inr ⟨hst, .inr ⟨b, hb, hbt, he⟩⟩)
    · rename_i h1
      have h1 : plLt a t = false := by simpa using h1
      split
      · rename_i h2
        have hno : ∀ b ∈ a :: r, ¬ Same b t := fun b hb h => by
          have h3 : plLt t b = true := by
            rcases List.mem_cons.1 hb with rfl | hb
            · exact h2
            · exact plLt_trans h2 (ha b hb)
          have := sameT_no (a := t) (b := b) ⟨h.1.symm, h.2.symm⟩
          rw [h3] at this; cases this
        rw [List.mem_cons]
        constructor
        · rintro (rfl | h)
          · exact .inr ⟨⟨rfl, rfl⟩, .inl ⟨rfl, hno⟩⟩
          · exact .inl ⟨h, hno s h⟩
        · rintro (⟨h, -⟩ | ⟨-, ⟨h, -⟩ | ⟨b, hb, hbt, -⟩⟩)
          · exact .inr h
          · exact .inl h
          · exact absurd hbt (hno b hb)
      · rename_i h2
        have h2 : plLt t a = false := by simpa using h2
        have hat := sameT_of h1 h2
        have hno : ∀ b ∈ r, ¬ Same b t := fun b hb h => by
          have h3 := ha b hb
          rw [plLt_iff] at h3
          unfold Same at h hat
          omega
        rw [List.mem_cons]
        constructor
        · rintro (rfl | h)
          · exact .inr ⟨⟨rfl, rfl⟩, .inr ⟨a, List.mem_cons_self, hat, rfl⟩⟩
          · exact .inl ⟨List.mem_cons_of_mem _ h, hno s h⟩
        · rintro (⟨h, hn⟩ | ⟨hst, ⟨rfl, hall⟩ | ⟨b, hb, hbt, he⟩⟩)
          · rcases List.mem_cons.1 h with rfl | h
            · exact absurd hat hn
            · exact .inr h
          · exact absurd hat (hall a List.mem_cons_self)
          · rcases List.mem_cons.1 hb with rfl | hb
            · exact .inl (tm_ext hst he)
            · exact absurd hbt (hno b hb)
theorem srt_put (t : Tm) : ∀ (l : List Tm), Srt l → Srt (putL l t)
  | [], _ => by simp [putL, Srt]
  | a :: r, hs => by
    have hr : Srt r := (List.pairwise_cons.1 hs).2
    have ha := (List.pairwise_cons.1 hs).1
    unfold putL
    split
    · rename_i h1
      refine List.pairwise_cons.2 ⟨fun b hb => ?_, srt_put t r hr⟩
      rcases (mem_put t r hr b).1 hb with ⟨h, -⟩ | ⟨h, -⟩
      · exact ha b h
      · rw [plLt_iff] at h1 ⊢; unfold Same at h; omega
    · rename_i h1
      have h1 : plLt a t = false := by simpa using h1
      split
      · rename_i h2
        refine List.pairwise_cons.2 ⟨fun b hb => ?_, hs⟩
        rcases List.mem_cons.1 hb with rfl | hb
        · exact h2
        · exact plLt_trans h2 (ha b hb)
      · rename_i h2
        have hat := sameT_of h1 (by simpa using h2)
        refine List.pairwise_cons.2 ⟨fun b hb => ?_, hr⟩
        have := ha b hb
        rw [plLt_iff] at this ⊢
        unfold Same at hat
        simp only
        omega
theorem norm_ok (ts : List Tm) : Srt (norm ts) ∧ ∀ s, s ∈ norm ts ↔ Mn ts s := by
  have key : ∀ n, n ≤ ts.length → Srt (norm (ts.take n)) ∧ ∀ s, s ∈ norm (ts.take n) ↔ Mn (ts.take n) s := by
    intro n
    induction n with
    | zero => intro _; exact ⟨by simp [norm, Srt], fun s => by simp [norm, Mn]⟩
    | succ n ih =>
      intro hn
      obtain ⟨h1, h2⟩ := ih (by omega)
      rw [take_td ts n (by omega), norm_snoc]
      generalize ts.take n = us at h1 h2
      generalize td ts n = t
      refine ⟨srt_put t _ h1, fun s => ?_⟩
      rw [mem_put t _ h1 s]
      unfold Mn
      constructor
      · rintro (⟨h, hn⟩ | ⟨hst, ⟨rfl, hall⟩ | ⟨a, ha, hat, he⟩⟩)
        · obtain ⟨h3, h4⟩ := (h2 s).1 h
          refine ⟨List.mem_append_left _ h3, fun u hu hus => ?_⟩
          rcases List.mem_append.1 hu with hu | hu
          · exact h4 u hu hus
          · rw [List.mem_singleton.1 hu] at hus
            exact absurd ⟨hus.1.symm, hus.2.symm⟩ hn
        · refine ⟨by simp, fun u hu hus => ?_⟩
          rcases List.mem_append.1 hu with hu | hu
          · exfalso
            -- some least one with these exponents lies in the list
            have : ∀ (vs : List Tm) (u : Tm), u ∈ vs → ∃ m, Mn vs m ∧ Same m u := by
              intro vs
              induction vs with
              | nil => intro u hu; simp at hu
              | cons v vs ih =>
                intro u hu
                by_cases hex : ∃ x ∈ vs, Same x u
                · obtain ⟨x, hx, hxu⟩ := hex
                  obtain ⟨m, ⟨hm1, hm2⟩, hmx⟩ := ih x hx
                  by_cases hv : Same v u ∧ v.2.2 < m.2.2
                  · refine ⟨v, ⟨List.mem_cons_self, fun y hy hyv => ?_⟩, hv.1⟩
                    rcases List.mem_cons.1 hy with rfl | hy
                    · omega
                    · have := hm2 y hy (by unfold Same at *; omega)
                      omega
                  · refine ⟨m, ⟨List.mem_cons_of_mem _ hm1, fun y hy hym => ?_⟩, by unfold Same at *; omega⟩
                    rcases List.mem_cons.1 hy with rfl | hy
                    · have : Same y u := by unfold Same at *; omega
                      have : ¬ y.2.2 < m.2.2 := fun h => hv ⟨this, h⟩
                      omega
                    · exact hm2 y hy hym
                · have huv : u = v := by
                    rcases List.mem_cons.1 hu with h | h
                    · exact h
                    · exact absurd ⟨u, h, rfl, rfl⟩ hex
                  subst huv
                  refine ⟨u, ⟨List.mem_cons_self, fun y hy hyu => ?_⟩, rfl, rfl⟩
                  rcases List.mem_cons.1 hy with rfl | hy
                  · omega
                  · exact absurd ⟨y, hy, hyu⟩ hex
            obtain ⟨m, hm, hmu⟩ := this us u hu
            exact hall m ((h2 m).2 hm) (by unfold Same at *; omega)
          · rw [List.mem_singleton.1 hu]; omega
        · obtain ⟨ha1, ha2⟩ := (h2 a).1 ha
          have hl : lessI t.2.2 a.2.2 ≤ t.2.2 ∧ lessI t.2.2 a.2.2 ≤ a.2.2 ∧ (lessI t.2.2 a.2.2 = t.2.2 ∨ lessI t.2.2 a.2.2 = a.2.2) := by unfold lessI; split <;> omega
          refine ⟨?_, fun u hu hus => ?_⟩
          · rcases hl.2.2 with h | h
            · exact List.mem_append_right _ (by rw [List.mem_singleton]; exact tm_ext hst (by omega))
            · refine List.mem_append_left _ ?_
              rw [tm_ext (a := s) (b := a) (by unfold Same at *; omega) (by omega)]
              exact ha1
          · rcases List.mem_append.1 hu with hu | hu
            · have := ha2 u hu (by unfold Same at *; omega)
              omega
            · rw [List.mem_singleton.1 hu]; omega
      · rintro ⟨h3, h4⟩
        by_cases hst : Same s t
        · refine .inr ⟨hst, ?_⟩
          by_cases hall : ∀ a ∈ norm us, ¬ Same a t
          · refine .inl ⟨?_, hall⟩
            rcases List.mem_append.1 h3 with h3 | h3
            · exact absurd hst (hall s ((h2 s).2 ⟨h3, fun u hu hus => h4 u (List.mem_append_left _ hu) hus⟩))
            · exact List.mem_singleton.1 h3
          · refine .inr ?_
            simp only [Classical.not_forall, Classical.not_not] at hall
            obtain ⟨a, ha, hat⟩ := hall
            obtain ⟨ha1, ha2⟩ := (h2 a).1 ha
            refine ⟨a, ha, hat, ?_⟩
            have e1 := h4 t (by simp) ⟨hst.1.symm, hst.2.symm⟩
            have e2 := h4 a (List.mem_append_left _ ha1) (by unfold Same at *; omega)
            rcases List.mem_append.1 h3 with h3 | h3
            · have e3 := ha2 s h3 (by unfold Same at *; omega)
              unfold lessI; split <;> omega
            · rw [List.mem_singleton.1 h3] at e2 ⊢
              unfold lessI; split <;> omega
        · refine .inl ⟨(h2 s).2 ⟨?_, fun u hu hus => h4 u (List.mem_append_left _ hu) hus⟩, hst⟩
          rcases List.mem_append.1 h3 with h3 | h3
          · exact h3
          · exact absurd (by rw [List.mem_singleton.1 h3]; exact ⟨rfl, rfl⟩) hst
  have := key ts.length (Nat.le_refl _)
  rwa [List.take_length] at this
/-- Lists in order with the same members are one. -/
theorem srt_unique : ∀ (l r : List Tm), Srt l → Srt r → (∀ s, s ∈ l ↔ s ∈ r) → l = r
  | [], [], _, _, _ => rfl
  | [], b :: q, _, _, h => by have := (h b).2 List.mem_cons_self; simp at this
  | a :: p, [], _, _, h => by have := (h a).1 List.mem_cons_self; simp at this
  | a :: p, b :: q, hl, hr, h => by
    have ha := (List.pairwise_cons.1 hl).1
    have hb := (List.pairwise_cons.1 hr).1
    have hab : a = b := by
      rcases List.mem_cons.1 ((h a).1 List.mem_cons_self) with h1 | h1
      · exact h1
      · rcases List.mem_cons.1 ((h b).2 List.mem_cons_self) with h2 | h2
        · exact h2.symm
        · have h3 := ha b h2
          have h4 := hb a h1
          rw [plLt_iff] at h3 h4
          omega
    subst hab
    rw [srt_unique p q (List.pairwise_cons.1 hl).2 (List.pairwise_cons.1 hr).2 fun s => ?_]
    have hirr : ∀ x : Tm, plLt a x = true → x ≠ a := fun x hx he => by subst he; rw [plLt_iff] at hx; omega
    constructor
    · intro hs
      rcases List.mem_cons.1 ((h s).1 (List.mem_cons_of_mem _ hs)) with h1 | h1
      · exact absurd h1 (hirr s (ha s hs))
      · exact h1
    · intro hs
      rcases List.mem_cons.1 ((h s).2 (List.mem_cons_of_mem _ hs)) with h1 | h1
      · exact absurd h1 (hirr s (hb s hs))
      · exact h1
theorem norm_srt {l : List Tm} (h : Srt l) : norm l = l := by
  obtain ⟨h1, h2⟩ := norm_ok l
  refine srt_unique _ _ h1 h fun s => ?_
  rw [h2 s]
  constructor
  · exact fun h => h.1
  · intro hs
    refine ⟨hs, fun u hu hus => ?_⟩
    by_cases he : u = s
    · rw [he]; omega
    · exfalso
      obtain ⟨i, hi, rfl⟩ := List.mem_iff_getElem.1 hu
      obtain ⟨j, hj, rfl⟩ := List.mem_iff_getElem.1 hs
      have hij : i ≠ j := by rintro rfl; exact he rfl
      rcases Nat.lt_or_gt_of_ne hij with hlt | hlt
      · have := List.pairwise_iff_getElem.1 h i j hi hj hlt
        rw [sameT_no hus] at this; cases this
      · have := List.pairwise_iff_getElem.1 h j i hj hi hlt
        rw [sameT_no ⟨hus.1.symm, hus.2.symm⟩] at this; cases this
theorem mn_perm {a b : List Tm} (h : a.Perm b) (s : Tm) : Mn a s ↔ Mn b s := by
  unfold Mn
  rw [h.mem_iff]
  constructor <;> rintro ⟨h1, h2⟩ <;> exact ⟨h1, fun u hu => h2 u (by first | exact h.mem_iff.1 hu | exact h.mem_iff.2 hu)⟩
/-- What is left of a list when each term goes that has the exponents of the one before it. -/
def cmpN (l : List Tm) : Nat → List Tm
  | 0 => []
  | k + 1 => if k ≠ 0 ∧ sameTB (td l k) (td l (k - 1)) = true then cmpN l k else cmpN l k ++ [td l k]
/-- The order of terms: by both exponents, then by the coefficient. -/
def leT (a b : Tm) : Bool := plLt a b || (sameTB a b && decide (a.2.2 ≤ b.2.2))
theorem leT_iff (a b : Tm) : leT a b = true ↔ a.1 < b.1 ∨ (a.1 = b.1 ∧ (a.2.1 < b.2.1 ∨ (a.2.1 = b.2.1 ∧ a.2.2 ≤ b.2.2))) := by
  unfold leT
  rw [Bool.or_eq_true, Bool.and_eq_true, plLt_iff, sameTB_iff, decide_eq_true_eq]
  unfold Same
  omega
theorem cmp_ok (d : List Tm) (hd : d.Pairwise fun a b => leT a b = true) : ∀ n, n ≤ d.length → Srt (cmpN d n) ∧ ∀ s, s ∈ cmpN d n ↔ Mn (d.take n) s
  | 0, _ => ⟨by simp [cmpN, Srt], fun s => by simp [cmpN, Mn]⟩
  | n + 1, hn => by
    obtain ⟨h1, h2⟩ := cmp_ok d hd n (by omega)
    have hle : ∀ i j, i < j → j < d.length → leT (td d i) (td d j) = true := fun i j hij hj => by
      have := List.pairwise_iff_getElem.1 hd i j (by omega) hj hij
      rwa [td_eq d i (by omega), td_eq d j hj]
    have hall : ∀ u ∈ d.take n, leT u (td d n) = true := fun u hu => by
      obtain ⟨k, hk, hkl, rfl⟩ := mem_take_td hu
      exact hle k n hk (by omega)
    rw [take_td d n (by omega)]
    unfold cmpN
    split
    · rename_i hc
      obtain ⟨hn0, hsm⟩ := hc
      rw [sameTB_iff] at hsm
      have hpm : td d (n - 1) ∈ d.take n := by
        rw [td_eq d (n - 1) (by omega)]
        exact List.mem_iff_getElem.2 ⟨n - 1, by rw [List.length_take]; omega, List.getElem_take⟩
      have hpl := hall _ hpm
      rw [leT_iff] at hpl
      refine ⟨h1, fun s => ?_⟩
      rw [h2 s]
      unfold Mn
      constructor
      · rintro ⟨h3, h4⟩
        refine ⟨List.mem_append_left _ h3, fun u hu hus => ?_⟩
        rcases List.mem_append.1 hu with hu | hu
        · exact h4 u hu hus
        · rw [List.mem_singleton.1 hu] at hus ⊢
          have := h4 _ hpm (by unfold Same at *; omega)
          unfold Same at *
          omega
      · rintro ⟨h3, h4⟩
        refine ⟨?_, fun u hu hus => h4 u (List.mem_append_left _ hu) hus⟩
        rcases List.mem_append.1 h3 with h3 | h3
        · exact h3
        · rw [List.mem_singleton.1 h3] at h4 ⊢
          have := h4 _ (List.mem_append_left _ hpm) (by unfold Same at *; omega)
          unfold Same at hsm
          rw [tm_ext (a := td d n) (b := td d (n - 1)) hsm (by omega)]
          exact hpm
    · rename_i hc
      have hlt : ∀ u ∈ d.take n, plLt u (td d n) = true := fun u hu => by
        obtain ⟨k, hk, hkl, rfl⟩ := mem_take_td hu
        have hns : ¬ Same (td d n) (td d (n - 1)) := fun h => hc ⟨by omega, (sameTB_iff _ _).2 h⟩
        have h5 := hle (n - 1) n (by omega) (by omega)
        by_cases he : k = n - 1
        · subst he
          rw [leT_iff] at h5
          rw [plLt_iff]
          unfold Same at hns
          omega
        · have h6 := hle k (n - 1) (by omega) (by omega)
          rw [leT_iff] at h5 h6
          rw [plLt_iff]
          unfold Same at hns
          omega
      refine ⟨?_, fun s => ?_⟩
      · unfold Srt
        rw [List.pairwise_append]
        refine ⟨h1, by simp, fun a ha b hb => ?_⟩
        rw [List.mem_singleton.1 hb]
        exact hlt a ((h2 a).1 ha).1
      · rw [List.mem_append, h2 s]
        unfold Mn
        have hns : ∀ u ∈ d.take n, ¬ Same u (td d n) := fun u hu h => by have := hlt u hu; rw [sameT_no h] at this; cases this
        constructor
        · rintro (⟨h3, h4⟩ | h3)
          · refine ⟨List.mem_append_left _ h3, fun u hu hus => ?_⟩
            rcases List.mem_append.1 hu with hu | hu
            · exact h4 u hu hus
            · rw [List.mem_singleton.1 hu] at hus
              exact absurd ⟨hus.1.symm, hus.2.symm⟩ (hns s h3)
          · rw [List.mem_singleton.1 h3]
            refine ⟨by simp, fun u hu hus => ?_⟩
            rcases List.mem_append.1 hu with hu | hu
            · exact absurd hus (hns u hu)
            · rw [List.mem_singleton.1 hu]; omega
        · rintro ⟨h3, h4⟩
          rcases List.mem_append.1 h3 with h3 | h3
          · exact .inl ⟨h3, fun u hu hus => h4 u (List.mem_append_left _ hu) hus⟩
          · exact .inr h3
/-- A list put in order, without the terms that have the exponents of the one before, is what the terms put in one by one make. -/
theorem cmp_norm {d ts : List Tm} (hp : d.Perm ts) (hd : d.Pairwise fun a b => leT a b = true) : cmpN d d.length = norm ts := by
  obtain ⟨h1, h2⟩ := cmp_ok d hd d.length (Nat.le_refl _)
  obtain ⟨h3, h4⟩ := norm_ok ts
  rw [List.take_length] at h2
  exact srt_unique _ _ h1 h3 fun s => by rw [h2 s, h4 s, mn_perm hp s]
/-- The plane polynomial with the least ones of terms, if it is one. -/
def npR (ts : List Tm) : List Tm := if plB (norm ts) = true then norm ts else []
theorem npR_yes {ts : List Tm} (h : plB (norm ts) = true) : npR ts = norm ts := if_pos h
theorem npR_no {ts : List Tm} (h : plB (norm ts) = false) : npR ts = [] := if_neg (by simp [h])
theorem npR_le (ts : List Tm) : (npR ts).length ≤ 12 := by
  cases h : plB (norm ts)
  · rw [npR_no h]; simp
  · rw [npR_yes h]; exact (plB_le h).2
end Go.Proofs.Ytijmnbgmpakllaa
