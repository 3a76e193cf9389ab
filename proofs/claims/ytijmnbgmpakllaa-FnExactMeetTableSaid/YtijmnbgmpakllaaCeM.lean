/-
  Cells of a list of terms: planes through three terms, heights above them, sets of indices: plain mathematics.
  No condition.
-/
import Derived.Test.YtijmnbgmpakllaaPlM
import Derived.Test.YtijmnbgmpakllaaHullM
import Derived.Test.YtijmnbgmpakllaaCmp
namespace Go.Proofs.Ytijmnbgmpakllaa
set_option linter.unusedSimpArgs false
set_option linter.unusedVariables false

/-! ### Planes and heights -/
/-- The point of a term. -/
def ptO (t : Tm) : Pt := (t.1, t.2.1)
def stT (a b : Tm) : Tm := (b.1 - a.1, b.2.1 - a.2.1, b.2.2 - a.2.2)
def crT (u v : Tm) : Tm := (u.2.1 * v.2.2 - u.2.2 * v.2.1, u.2.2 * v.1 - u.1 * v.2.2, u.1 * v.2.1 - u.2.1 * v.1)
def ngT (u : Tm) : Tm := (-u.1, -u.2.1, -u.2.2)
def noT (a b c : Tm) : Tm := crT (stT a b) (stT a c)
def nmT (a b c : Tm) : Tm := if (noT a b c).2.2 < 0 then ngT (noT a b c) else noT a b c
/-- The height of t above the plane through a with the normal N. -/
def htT (a N t : Tm) : Int := N.1 * (t.1 - a.1) + N.2.1 * (t.2.1 - a.2.1) + N.2.2 * (t.2.2 - a.2.2)
def tuT (a b c : Tm) : Int := trn (ptO a) (ptO b) (ptO c)
def sgI (x : Int) : Int := if x < 0 then -1 else if 0 < x then 1 else 0
def abN (a b c t : Tm) : Int := t.2.2 * tuT a b c - a.2.2 * trn (ptO t) (ptO b) (ptO c) - b.2.2 * trn (ptO a) (ptO t) (ptO c) - c.2.2 * trn (ptO a) (ptO b) (ptO t)
def abT (a b c t : Tm) : Int := abN a b c t * sgI (tuT a b c)
theorem noT_tu (a b c : Tm) : (noT a b c).2.2 = tuT a b c := by unfold noT crT stT tuT trn ptO; grind
theorem abN_ht (a b c t : Tm) : abN a b c t = htT a (noT a b c) t := by
  unfold abN htT noT crT stT tuT trn ptO; grind
theorem htT_ng (a N t : Tm) : htT a (ngT N) t = - htT a N t := by unfold htT ngT; grind
theorem ab_ht {a b c t : Tm} (h : tuT a b c ≠ 0) : abT a b c t = htT a (nmT a b c) t := by
  unfold abT nmT sgI
  rw [noT_tu, abN_ht]
  by_cases h1 : tuT a b c < 0
  · rw [if_pos h1, if_pos h1, htT_ng]; omega
  · rw [if_neg h1, if_neg h1, if_pos (by omega)]; omega
theorem htT_self (a N : Tm) : htT a N a = 0 := by unfold htT; simp
/-- Bounds: no product is great. -/
theorem mulB2 {x y A B : Int} (hx : -A ≤ x ∧ x ≤ A) (hy : -B ≤ y ∧ y ≤ B) : -(A * B) ≤ x * y ∧ x * y ≤ A * B := by
  have hA : 0 ≤ A := by omega
  have hB : 0 ≤ B := by omega
  have h1 := Int.mul_nonneg (show 0 ≤ A - x by omega) (show 0 ≤ B + y by omega)
  have h2 := Int.mul_nonneg (show 0 ≤ A + x by omega) (show 0 ≤ B - y by omega)
  have h3 := Int.mul_nonneg (show 0 ≤ A - x by omega) (show 0 ≤ B - y by omega)
  have h4 := Int.mul_nonneg (show 0 ≤ A + x by omega) (show 0 ≤ B + y by omega)
  rw [Int.sub_mul, Int.mul_add, Int.mul_add] at h1
  rw [Int.add_mul, Int.mul_sub, Int.mul_sub] at h2
  rw [Int.sub_mul, Int.mul_sub, Int.mul_sub] at h3
  rw [Int.add_mul, Int.mul_add, Int.mul_add] at h4
  omega
/-- A step between two terms; a normal. -/
def BdS (t : Tm) : Prop := (-6 ≤ t.1 ∧ t.1 ≤ 6) ∧ (-6 ≤ t.2.1 ∧ t.2.1 ≤ 6) ∧ (-2000000 ≤ t.2.2 ∧ t.2.2 ≤ 2000000)
def BdN (t : Tm) : Prop := (-24000000 ≤ t.1 ∧ t.1 ≤ 24000000) ∧ (-24000000 ≤ t.2.1 ∧ t.2.1 ≤ 24000000) ∧ (-72 ≤ t.2.2 ∧ t.2.2 ≤ 72)
theorem BdS.of {a b : Tm} (ha : plT a = true) (hb : plT b = true) : BdS (stT a b) := by
  have h1 := plT_parts ha
  have h2 := plT_parts hb
  unfold BdS stT
  dsimp only
  omega
theorem BdN.of {u v : Tm} (hu : BdS u) (hv : BdS v) : BdN (crT u v) := by
  obtain ⟨a1, a2, a3⟩ := hu
  obtain ⟨b1, b2, b3⟩ := hv
  unfold BdN crT
  dsimp only
  have c1 := mulB2 a2 b3; have c2 := mulB2 a3 b2; have c3 := mulB2 a3 b1; have c4 := mulB2 a1 b3; have c5 := mulB2 a1 b2; have c6 := mulB2 a2 b1
  omega
theorem BdN.ng {u : Tm} (hu : BdN u) : BdN (ngT u) := by
  obtain ⟨a1, a2, a3⟩ := hu
  unfold BdN ngT
  dsimp only
  omega
theorem BdN.nm {a b c : Tm} (ha : plT a = true) (hb : plT b = true) (hc : plT c = true) : BdN (nmT a b c) := by
  unfold nmT noT
  split
  · exact (BdN.of (BdS.of ha hb) (BdS.of ha hc)).ng
  · exact BdN.of (BdS.of ha hb) (BdS.of ha hc)

/-! ### Cells -/
/-- A plane: a term on it, its normal. -/
def plO (l : List Tm) (i j k : Nat) : Tm × Tm := (td l i, nmT (td l i) (td l j) (td l k))
def hgtP (p : Tm × Tm) (t : Tm) : Int := htT p.1 p.2 t
/-- The terms on a plane among the first n. -/
def zeL (p : Tm × Tm) (l : List Tm) : Nat → List Int
  | 0 => []
  | n + 1 => zeL p l n ++ if hgtP p (td l n) = 0 then [(n : Int)] else []
def okP (p : Tm × Tm) (l : List Tm) (n : Nat) : Prop := ∀ m, m < n → 0 ≤ hgtP p (td l m)
theorem okP_next {p : Tm × Tm} {l : List Tm} {n : Nat} (h : okP p l n) (h' : 0 ≤ hgtP p (td l n)) : okP p l (n + 1) := fun m hm => by
  by_cases e : m = n
  · subst e; exact h'
  · exact h m (by omega)
theorem okP_bad {p : Tm × Tm} {l : List Tm} {n k : Nat} (hn : n < k) (h' : hgtP p (td l n) < 0) : ¬ okP p l k := fun h => by
  have := h n hn; omega
theorem zeL_mem (p : Tm × Tm) (l : List Tm) (x : Int) : ∀ n, x ∈ zeL p l n ↔ ∃ m : Nat, m < n ∧ x = m ∧ hgtP p (td l m) = 0
  | 0 => by simp [zeL]
  | n + 1 => by
    rw [zeL, List.mem_append, zeL_mem p l x n]
    constructor
    · rintro (⟨m, h1, h2, h3⟩ | h)
      · exact ⟨m, by omega, h2, h3⟩
      · split at h
        · next h0 => exact ⟨n, by omega, by simpa using h, h0⟩
        · simp at h
    · rintro ⟨m, h1, h2, h3⟩
      by_cases e : m = n
      · subst e; right; rw [if_pos h3]; simp [h2]
      · exact .inl ⟨m, by omega, h2, h3⟩
theorem zeL_zero {p : Tm × Tm} {l : List Tm} {n : Nat} (h : hgtP p (td l n) = 0) : zeL p l (n + 1) = zeL p l n ++ [(n : Int)] := by rw [zeL, if_pos h]
theorem zeL_not {p : Tm × Tm} {l : List Tm} {n : Nat} (h : hgtP p (td l n) ≠ 0) : zeL p l (n + 1) = zeL p l n := by rw [zeL, if_neg h, List.append_nil]
theorem zeL_len (p : Tm × Tm) (l : List Tm) : ∀ n, (zeL p l n).length ≤ n
  | 0 => by simp [zeL]
  | n + 1 => by
    rw [zeL, List.length_append]
    have := zeL_len p l n
    split <;> simp <;> omega
/-- The cell x of the plane of the terms i, j, k. -/
def TriC (l : List Tm) (i j k : Nat) (x : List Int) : Prop :=
  i < j ∧ j < k ∧ k < l.length ∧ tuT (td l i) (td l j) (td l k) ≠ 0 ∧ okP (plO l i j k) l l.length ∧ x = zeL (plO l i j k) l l.length
theorem zeL_pos {l : List Tm} {i j k : Nat} (hi : i < l.length) : 0 < (zeL (plO l i j k) l l.length).length := by
  have h : (i : Int) ∈ zeL (plO l i j k) l l.length := (zeL_mem _ l _ _).2 ⟨i, hi, rfl, htT_self _ _⟩
  exact List.length_pos_of_mem h
/-- Lists in order that hold just the cells of the planes of some threes. -/
def CeI (l : List Tm) (D : Nat → Nat → Nat → Prop) (out : List (List Int)) : Prop := Inc lxL out ∧ ∀ x, x ∈ out ↔ ∃ i j k, D i j k ∧ TriC l i j k x
instance (l : List Tm) (p : Tm × Tm) (n : Nat) : Decidable (okP p l n) := decidable_of_iff (∀ m ∈ List.range n, 0 ≤ hgtP p (td l m)) (by unfold okP; simp)
def ceA (l : List Tm) : List (List Int) :=
  (List.range l.length).flatMap fun k => (List.range k).flatMap fun j => (List.range j).flatMap fun i =>
    if tuT (td l i) (td l j) (td l k) ≠ 0 ∧ okP (plO l i j k) l l.length then [zeL (plO l i j k) l l.length] else []
/-- ALL CELLS, in order. -/
def ceL (l : List Tm) : List (List Int) := setX lxL (ceA l)
theorem ceA_mem (l : List Tm) (x : List Int) : x ∈ ceA l ↔ ∃ i j k, TriC l i j k x := by
  unfold ceA TriC
  simp only [List.mem_flatMap, List.mem_range]
  constructor
  · rintro ⟨k, hk, j, hj, i, hi, h⟩
    split at h
    · next hc => exact ⟨i, j, k, hi, hj, hk, hc.1, hc.2, by simpa using h⟩
    · simp at h
  · rintro ⟨i, j, k, hi, hj, hk, h1, h2, h3⟩
    exact ⟨k, hk, j, hj, i, hi, by rw [if_pos ⟨h1, h2⟩]; simp [h3]⟩
theorem ceL_inc (l : List Tm) : Inc lxL (ceL l) := setX_inc totLx _
theorem ceL_mem (l : List Tm) (x : List Int) : x ∈ ceL l ↔ ∃ i j k, TriC l i j k x := (setX_mem totLx _ _).trans (ceA_mem l x)
theorem CeI.end_ {l : List Tm} {D : Nat → Nat → Nat → Prop} {out : List (List Int)} (h : CeI l D out) (hD : ∀ i j k, i < j → j < k → k < l.length → D i j k) : out = ceL l :=
  inc_ext totLx h.1 (ceL_inc l) fun x => by
    rw [h.2, ceL_mem]
    constructor
    · rintro ⟨i, j, k, _, h⟩; exact ⟨i, j, k, h⟩
    · rintro ⟨i, j, k, h⟩; exact ⟨i, j, k, hD i j k h.1 h.2.1 h.2.2.1, h⟩
theorem inc_le {l m : List (List Int)} (hl : Inc lxL l) (hm : Inc lxL m) (h : ∀ x ∈ l, x ∈ m) : l.length ≤ m.length := by
  have e : l = m.filter (fun x => decide (x ∈ l)) := inc_ext totLx hl (List.Pairwise.filter _ hm) fun x => by
    rw [List.mem_filter]
    constructor
    · intro hx; exact ⟨h x hx, by simpa using hx⟩
    · rintro ⟨_, hx⟩; simpa using hx
  rw [e]; exact List.length_filter_le _ _
theorem CeI.le {l : List Tm} {D : Nat → Nat → Nat → Prop} {out : List (List Int)} (h : CeI l D out) : out.length ≤ (ceL l).length :=
  inc_le h.1 (ceL_inc l) fun x hx => by
    obtain ⟨i, j, k, _, h'⟩ := (h.2 x).1 hx
    exact (ceL_mem l x).2 ⟨i, j, k, h'⟩
theorem flat_le {α β : Type} (f : α → List β) (c : Nat) : ∀ (l : List α), (∀ a ∈ l, (f a).length ≤ c) → (l.flatMap f).length ≤ l.length * c
  | [], _ => by simp
  | a :: l, h => by
    rw [List.flatMap_cons, List.length_append, List.length_cons, Nat.add_mul]
    have h1 := h a (by simp)
    have h2 := flat_le f c l fun b hb => h b (by simp [hb])
    omega
theorem putX_len (x : List Int) (l : List (List Int)) : (putX lxL x l).length ≤ l.length + 1 := by
  rw [putX_at totLx]
  split
  · omega
  · simp; omega
theorem setX_len (l : List (List Int)) : (setX lxL l).length ≤ l.length := by
  have h : ∀ (l s : List (List Int)), (l.foldl (fun s x => putX lxL x s) s).length ≤ s.length + l.length := by
    intro l
    induction l with
    | nil => intro s; simp
    | cons x l ih => intro s; rw [List.foldl_cons, List.length_cons]; have := ih (putX lxL x s); have := putX_len x s; omega
  have := h l []
  unfold setX
  simpa using this
theorem ceL_len {l : List Tm} (h : l.length ≤ 12) : (ceL l).length ≤ 1728 := by
  refine Nat.le_trans (setX_len _) ?_
  have h1 : (ceA l).length ≤ (List.range l.length).length * 144 := flat_le _ _ _ fun k hk => by
    rw [List.mem_range] at hk
    have h2 : ((List.range k).flatMap fun j => (List.range j).flatMap fun i => if tuT (td l i) (td l j) (td l k) ≠ 0 ∧ okP (plO l i j k) l l.length then [zeL (plO l i j k) l l.length] else []).length ≤ (List.range k).length * 12 := flat_le _ _ _ fun j hj => by
      rw [List.mem_range] at hj
      have h3 : ((List.range j).flatMap fun i => if tuT (td l i) (td l j) (td l k) ≠ 0 ∧ okP (plO l i j k) l l.length then [zeL (plO l i j k) l l.length] else []).length ≤ (List.range j).length * 1 := flat_le _ _ _ fun i _ => by split <;> simp
      rw [List.length_range] at h3
      omega
    rw [List.length_range] at h2
    omega
  rw [List.length_range] at h1
  omega
theorem ceL_bd {l : List Tm} {x : List Int} (h : x ∈ ceL l) : (∀ n ∈ x, 0 ≤ n ∧ n < l.length) ∧ 0 < x.length ∧ x.length ≤ l.length := by
  obtain ⟨i, j, k, h1, h2, h3, _, _, rfl⟩ := (ceL_mem l x).1 h
  refine ⟨fun n hn => ?_, zeL_pos (by omega), zeL_len _ _ _⟩
  obtain ⟨m, hm, rfl, _⟩ := (zeL_mem _ l n _).1 hn
  omega

/-! ### Sets of indices -/
def ixL (bs : List Bool) : Nat → List Int
  | 0 => []
  | n + 1 => ixL bs n ++ if bs.getD n false = true then [(n : Int)] else []
theorem ixL_yes {bs : List Bool} {n : Nat} (h : bs.getD n false = true) : ixL bs (n + 1) = ixL bs n ++ [(n : Int)] := by rw [ixL, if_pos h]
theorem ixL_no {bs : List Bool} {n : Nat} (h : bs.getD n false = false) : ixL bs (n + 1) = ixL bs n := by rw [ixL, if_neg (by rw [h]; simp), List.append_nil]
theorem ixL_len (bs : List Bool) : ∀ n, (ixL bs n).length ≤ n
  | 0 => by simp [ixL]
  | n + 1 => by
    rw [ixL, List.length_append]
    have := ixL_len bs n
    split <;> simp <;> omega
theorem ixL_mem (bs : List Bool) (x : Int) : ∀ n, x ∈ ixL bs n ↔ ∃ m : Nat, m < n ∧ x = m ∧ bs.getD m false = true
  | 0 => by simp [ixL]
  | n + 1 => by
    rw [ixL, List.mem_append, ixL_mem bs x n]
    constructor
    · rintro (⟨m, h1, h2, h3⟩ | h)
      · exact ⟨m, by omega, h2, h3⟩
      · split at h
        · next h0 => exact ⟨n, by omega, by simpa using h, h0⟩
        · simp at h
    · rintro ⟨m, h1, h2, h3⟩
      by_cases e : m = n
      · subst e; right; rw [if_pos h3]; simp [h2]
      · exact .inl ⟨m, by omega, h2, h3⟩
theorem ixL_inj {n : Nat} {bs cs : List Bool} (hb : bs.length = n) (hc : cs.length = n) (h : ixL bs n = ixL cs n) : bs = cs := by
  refine List.ext_getElem (by omega) fun m h1 h2 => ?_
  have e : ((m : Int) ∈ ixL bs n) ↔ ((m : Int) ∈ ixL cs n) := by rw [h]
  rw [ixL_mem, ixL_mem] at e
  have gb : bs.getD m false = bs[m] := by rw [List.getD_eq_getElem?_getD, List.getElem?_eq_getElem h1]; rfl
  have gc : cs.getD m false = cs[m] := by rw [List.getD_eq_getElem?_getD, List.getElem?_eq_getElem h2]; rfl
  have e' : bs[m] = true ↔ cs[m] = true := by
    constructor
    · intro hx
      obtain ⟨m', _, hm, hy⟩ := e.1 ⟨m, by omega, rfl, by rw [gb]; exact hx⟩
      have : m' = m := by omega
      subst this; rw [gc] at hy; exact hy
    · intro hx
      obtain ⟨m', _, hm, hy⟩ := e.2 ⟨m, by omega, rfl, by rw [gc]; exact hx⟩
      have : m' = m := by omega
      subst this; rw [gb] at hy; exact hy
  cases hx : bs[m] <;> cases hy : cs[m] <;> simp_all
/-- The set of the terms on a plane, of the first n; 12 places. -/
def onL (p : Tm × Tm) (l : List Tm) (n : Nat) : List Bool := (List.range 12).map fun m => decide (m < n) && decide (hgtP p (td l m) = 0)
theorem onL_len (p : Tm × Tm) (l : List Tm) (n : Nat) : (onL p l n).length = 12 := by simp [onL]
theorem onL_getD (p : Tm × Tm) (l : List Tm) (n m : Nat) (hm : m < 12) : (onL p l n).getD m false = (decide (m < n) && decide (hgtP p (td l m) = 0)) := by
  unfold onL
  rw [List.getD_eq_getElem?_getD, List.getElem?_map, List.getElem?_range hm]
  rfl
theorem onL_zero (p : Tm × Tm) (l : List Tm) : onL p l 0 = List.replicate 12 false := by
  simp only [onL, Nat.not_lt_zero, decide_false, Bool.false_and]
  rfl
theorem onL_set (p : Tm × Tm) (l : List Tm) (n : Nat) (hn : n < 12) : (onL p l n).set n (decide (hgtP p (td l n) = 0)) = onL p l (n + 1) := by
  refine List.ext_getElem (by simp [onL]) fun m h1 h2 => ?_
  rw [List.getElem_set]
  simp only [onL, List.getElem_map, List.getElem_range]
  split
  · next e => subst e; simp
  · next e => congr 1; simp only [decide_eq_decide]; omega
theorem ixL_on (p : Tm × Tm) (l : List Tm) (n : Nat) (hn : n ≤ 12) : ∀ k, k ≤ 12 → ixL (onL p l n) k = zeL p l (min k n)
  | 0, _ => by simp [ixL, zeL]
  | k + 1, hk => by
    have ih := ixL_on p l n hn k (by omega)
    by_cases h1 : k < n
    · by_cases h2 : hgtP p (td l k) = 0
      · rw [ixL_yes (by rw [onL_getD _ _ _ _ (by omega)]; simp [h1, h2]), ih, show min (k + 1) n = k + 1 by omega, show min k n = k by omega, zeL_zero h2]
      · rw [ixL_no (by rw [onL_getD _ _ _ _ (by omega)]; simp [h1, h2]), ih, show min (k + 1) n = k + 1 by omega, show min k n = k by omega, zeL_not h2]
    · rw [ixL_no (by rw [onL_getD _ _ _ _ (by omega)]; simp [h1]), ih, show min (k + 1) n = n by omega, show min k n = n by omega]
theorem ixL_on12 (p : Tm × Tm) (l : List Tm) (hn : l.length ≤ 12) : ixL (onL p l l.length) 12 = zeL p l l.length := by
  rw [ixL_on p l _ hn 12 (Nat.le_refl _), show min 12 l.length = l.length by omega]
end Go.Proofs.Ytijmnbgmpakllaa
