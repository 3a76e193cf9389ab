/-
  Points, corners and the lower side of the hull of a polynomial: plain mathematics.
  No condition: lists of integers.
-/
import Derived.Test.YtklcildhfcomnaaGreatDoorPolyM
import Derived.Test.YtklcildhfcomnaaGreatDoorFrac
namespace Go.Proofs.YtklcildhfcomnaaGreatDoor
set_option linter.unusedSimpArgs false
set_option linter.unusedVariables false
open Go.RowKit

/-- The exponents below k whose coefficients are not Infinity. -/
def pts (zs : List Int) : Nat → List Int
  | 0 => []
  | k + 1 => pts zs k ++ (if gd zs k == 1000000000 then [] else [(k : Int)])
/-- The coefficient with an exponent. -/
def pv (zs : List Int) (i : Int) : Int := gd zs i.toNat
/-- Is j a corner between i and k. -/
def corB (zs : List Int) (i j k : Int) : Bool := decide ((pv zs j - pv zs i) * (k - i) < (pv zs k - pv zs i) * (j - i))
/-- A stack, its top first, without those that are no corners when k comes. -/
def popR (zs : List Int) (k : Int) : List Int → List Int
  | [] => []
  | [i] => [i]
  | j :: i :: t => if corB zs i j k = true then j :: i :: t else popR zs k (i :: t)
def putR (zs : List Int) (s : List Int) (k : Int) : List Int := k :: popR zs k s
def corR (zs : List Int) (l : List Int) : List Int := l.foldl (putR zs) []
/-- The corners. -/
def corL (zs : List Int) : List Int := (corR zs (pts zs zs.length)).reverse

theorem popR_len (zs : List Int) (k : Int) : ∀ (s : List Int), (popR zs k s).length ≤ s.length
  | [] => Nat.le_refl _
  | [i] => Nat.le_refl _
  | j :: i :: t => by
    unfold popR; split
    · exact Nat.le_refl _
    · have := popR_len zs k (i :: t); simp only [List.length_cons] at this ⊢; omega
theorem popR_stop {zs : List Int} {k j i : Int} {t : List Int} (h : corB zs i j k = true) : popR zs k (j :: i :: t) = j :: i :: t := by unfold popR; rw [if_pos h]
theorem popR_more {zs : List Int} {k j i : Int} {t : List Int} (h : corB zs i j k = false) : popR zs k (j :: i :: t) = popR zs k (i :: t) := by rw [popR, if_neg (by simp [h])]
theorem popR_short {zs : List Int} {k : Int} {s : List Int} (h : s.length < 2) : popR zs k s = s := by
  match s, h with
  | [], _ => rfl
  | [i], _ => rfl
  | _ :: _ :: _, h => simp at h; omega
theorem pts_len (zs : List Int) : ∀ k, (pts zs k).length ≤ k
  | 0 => Nat.le_refl _
  | k + 1 => by have := pts_len zs k; simp only [pts, List.length_append]; split <;> simp <;> omega
theorem pts_mem {zs : List Int} {x : Int} : ∀ {k : Nat}, x ∈ pts zs k ↔ 0 ≤ x ∧ x < k ∧ pv zs x ≠ 1000000000
  | 0 => by simp [pts]; omega
  | k + 1 => by
    simp only [pts, List.mem_append]
    rw [pts_mem (k := k)]
    constructor
    · rintro (⟨h1, h2, h3⟩ | h)
      · exact ⟨h1, by omega, h3⟩
      · split at h
        · simp at h
        · rename_i hg; simp at h hg; subst h; exact ⟨by omega, by omega, by simpa [pv] using hg⟩
    · rintro ⟨h1, h2, h3⟩
      by_cases e : x = k
      · subst e; right; rw [if_neg (by simpa [pv] using h3)]; simp
      · exact .inl ⟨h1, by omega, h3⟩
theorem pts_next (zs : List Int) (k : Nat) : pts zs (k + 1) = pts zs k ++ (if gd zs k == 1000000000 then [] else [(k : Int)]) := rfl
theorem pts_sorted (zs : List Int) : ∀ k, (pts zs k).Pairwise (· < ·)
  | 0 => List.Pairwise.nil
  | k + 1 => by
    simp only [pts]
    rw [List.pairwise_append]
    refine ⟨pts_sorted zs k, by split <;> simp, fun a ha b hb => ?_⟩
    have := pts_mem.1 ha
    split at hb <;> simp at hb
    omega

/-! ### The stack -/
/-- Exponents that fall, each three of them with a corner in the middle. -/
def Cx (zs : List Int) : List Int → Prop
  | [] => True
  | [_] => True
  | [j, i] => i < j
  | j :: i :: h :: t => i < j ∧ corB zs h i j = true ∧ Cx zs (i :: h :: t)
theorem Cx.tail {zs : List Int} {j : Int} {s : List Int} (h : Cx zs (j :: s)) : Cx zs s := by
  match s, h with
  | [], _ => trivial
  | [i], _ => trivial
  | _ :: _ :: _, h => exact h.2.2
theorem Cx.lt {zs : List Int} {j i : Int} {s : List Int} (h : Cx zs (j :: i :: s)) : i < j := by
  match s, h with
  | [], h => exact h
  | _ :: _, h => exact h.1
theorem Cx.pop {zs : List Int} {k : Int} : ∀ {s : List Int}, Cx zs s → (∀ x ∈ s, x < k) → Cx zs (k :: popR zs k s)
  | [], _, _ => trivial
  | [i], _, h => h i (by simp)
  | j :: i :: t, hc, h => by
    cases hb : corB zs i j k
    · rw [popR_more hb]
      exact Cx.pop hc.tail fun x hx => h x (by simp at hx ⊢; exact .inr hx)
    · rw [popR_stop hb]
      exact ⟨h j (by simp), hb, hc⟩
theorem popR_sub {zs : List Int} {k x : Int} : ∀ {s : List Int}, x ∈ popR zs k s → x ∈ s
  | [], h => h
  | [i], h => h
  | j :: i :: t, h => by
    cases hb : corB zs i j k
    · rw [popR_more hb] at h
      exact List.mem_cons_of_mem _ (popR_sub h)
    · rwa [popR_stop hb] at h
theorem popR_last {zs : List Int} {k : Int} : ∀ {s : List Int}, (popR zs k s).getLast? = s.getLast?
  | [] => rfl
  | [i] => rfl
  | j :: i :: t => by
    cases hb : corB zs i j k
    · rw [popR_more hb, popR_last, List.getLast?_cons_cons]
    · rw [popR_stop hb]
theorem snoc_ind {P : List Int → Prop} (h0 : P []) (h1 : ∀ l k, P l → P (l ++ [k])) (l : List Int) : P l := by
  have h : ∀ r : List Int, P r.reverse := by
    intro r
    induction r with
    | nil => exact h0
    | cons k t ih => rw [List.reverse_cons]; exact h1 _ _ ih
  exact List.reverse_reverse l ▸ h l.reverse
theorem corR_next (zs : List Int) (l : List Int) (k : Int) : corR zs (l ++ [k]) = k :: popR zs k (corR zs l) := by unfold corR; rw [List.foldl_append]; rfl
theorem corR_sub {zs : List Int} (l : List Int) : ∀ x ∈ corR zs l, x ∈ l := by
  induction l using snoc_ind with
  | h0 => intro x h; exact h
  | h1 l k ih =>
    intro x h
    rw [corR_next] at h
    rcases List.mem_cons.1 h with rfl | h
    · simp
    · exact List.mem_append.2 (.inl (ih x (popR_sub h)))
theorem corR_cx {zs : List Int} (l : List Int) (hs : l.Pairwise (· < ·)) : Cx zs (corR zs l) := by
  induction l using snoc_ind with
  | h0 => trivial
  | h1 l k ih =>
    rw [corR_next]
    rw [List.pairwise_append] at hs
    exact Cx.pop (ih hs.1) fun x hx => hs.2.2 x (corR_sub l x hx) k (by simp)
theorem corR_len (zs : List Int) (l : List Int) : (corR zs l).length ≤ l.length := by
  induction l using snoc_ind with
  | h0 => exact Nat.le_refl _
  | h1 l k ih => rw [corR_next]; have := popR_len zs k (corR zs l); simp; omega
theorem corR_last {zs : List Int} (l : List Int) : (corR zs l).getLast? = l.head? := by
  induction l using snoc_ind with
  | h0 => rfl
  | h1 l k ih =>
    rw [corR_next]
    cases hp : popR zs k (corR zs l) with
    | nil =>
      have h2 : (popR zs k (corR zs l)).getLast? = none := by rw [hp]; rfl
      rw [popR_last, ih] at h2
      cases l with
      | nil => rfl
      | cons a t => simp at h2
    | cons a t =>
      rw [List.getLast?_cons_cons, ← hp, popR_last, ih]
      cases l with
      | nil => simp [corR, popR] at hp
      | cons b r => rfl
theorem corR_head {zs : List Int} (l : List Int) : (corR zs l).head? = l.getLast? := by
  induction l using snoc_ind with
  | h0 => rfl
  | h1 l k ih => rw [corR_next]; simp
theorem gd_app_l {l r : List Int} {n : Nat} (h : n < l.length) : gd (l ++ r) n = gd l n := by
  rw [gd_eq _ n (by simp; omega), gd_eq _ n h]; exact List.getElem_append_left h
theorem gd_app_r {l : List Int} {x : Int} {n : Nat} (h : n = l.length) : gd (l ++ [x]) n = x := by
  subst h; rw [gd_eq _ _ (by simp)]; simp
/-- Read from the other end: increasing, each one between its neighbours a corner. -/
theorem cx_idx {zs : List Int} : ∀ {s : List Int}, Cx zs s → ∀ n, n + 1 < s.length → gd s.reverse n < gd s.reverse (n + 1) ∧ (n + 2 < s.length → corB zs (gd s.reverse n) (gd s.reverse (n + 1)) (gd s.reverse (n + 2)) = true)
  | [], _, n, h => by simp at h
  | [i], _, n, h => by simp at h
  | [j, i], hc, n, h => by
    simp at h
    obtain rfl : n = 0 := by omega
    refine ⟨?_, fun h' => by simp at h'⟩
    have := hc.lt
    simpa [gd] using this
  | j :: i :: g :: t, hc, n, h => by
    have ih := cx_idx (s := i :: g :: t) hc.tail
    have hl : ((i :: g :: t).reverse).length = t.length + 2 := by simp
    rw [List.reverse_cons (a := j)]
    have ei : gd (i :: g :: t).reverse (t.length + 1) = i := by
      rw [List.reverse_cons]; exact gd_app_r (by simp)
    have eg : gd (i :: g :: t).reverse t.length = g := by
      rw [List.reverse_cons, gd_app_l (by simp), List.reverse_cons]; exact gd_app_r (by simp)
    simp only [List.length_cons] at h ih
    by_cases e : n + 1 < t.length + 2
    · have ihn := ih n (by omega)
      rw [gd_app_l (n := n) (by omega), gd_app_l (n := n + 1) (by omega)]
      refine ⟨ihn.1, fun h' => ?_⟩
      simp only [List.length_cons] at h'
      by_cases e2 : n + 2 < t.length + 2
      · rw [gd_app_l (n := n + 2) (by omega)]; exact ihn.2 (by omega)
      · obtain rfl : n = t.length := by omega
        rw [gd_app_r (n := t.length + 2) (by omega), ei, eg]
        exact hc.2.1
    · obtain rfl : n = t.length + 1 := by omega
      rw [gd_app_l (n := t.length + 1) (by omega), gd_app_r (n := t.length + 1 + 1) (by omega), ei]
      exact ⟨hc.1, fun h' => by simp at h'⟩

/-! ### The corners of a polynomial -/
/-- The exponent of the first and of the last one. -/
structure Corn (zs : List Int) (C : List Int) : Prop where
  pos : 1 ≤ C.length
  le : C.length ≤ 13
  up : ∀ n, n + 1 < C.length → gd C n < gd C (n + 1)
  cor : ∀ n, n + 2 < C.length → corB zs (gd C n) (gd C (n + 1)) (gd C (n + 2)) = true
  pt : ∀ n, n < C.length → 0 ≤ gd C n ∧ gd C n < zs.length ∧ -1000000 ≤ pv zs (gd C n) ∧ pv zs (gd C n) ≤ 1000000
  zl : zs.length ≤ 13
  last : gd C (C.length - 1) = zs.length - 1
  first : ∀ x : Int, 0 ≤ x → x < gd C 0 → pv zs x = 1000000000
theorem pv_fin {zs : List Int} (h : poB zs = true) {x : Int} (h1 : 0 ≤ x) (h2 : x < zs.length) (h3 : pv zs x ≠ 1000000000) : -1000000 ≤ pv zs x ∧ pv zs x ≤ 1000000 := by
  have := numB_cases (po_num h (k := x.toNat) (by omega))
  unfold pv at *
  omega
theorem pts_first {zs : List Int} {k : Nat} : ∀ {x : Int}, 0 ≤ x → x < k → (∀ y, (pts zs k).head? = some y → x < y) → pv zs x = 1000000000 := by
  intro x h0 hk h
  by_cases e : pv zs x = 1000000000
  · exact e
  · exfalso
    have hm : x ∈ pts zs k := pts_mem.2 ⟨h0, hk, e⟩
    have hs := pts_sorted zs k
    cases hp : pts zs k with
    | nil => rw [hp] at hm; cases hm
    | cons y t =>
      rw [hp] at hm hs h
      have := h y rfl
      rcases List.mem_cons.1 hm with rfl | hm
      · omega
      · have := (List.pairwise_cons.1 hs).1 x hm
        omega
theorem corL_ok {zs : List Int} (h : poB zs = true) : Corn zs (corL zs) := by
  obtain ⟨h1, h2, h3, h4⟩ := po_parts h
  have hcx := corR_cx (zs := zs) (pts zs zs.length) (pts_sorted _ _)
  have hlen : (corL zs).length = (corR zs (pts zs zs.length)).length := by simp [corL]
  have hmem : ∀ n, n < (corL zs).length → gd (corL zs) n ∈ pts zs zs.length := fun n hn => corR_sub _ _ (by have := gd_mem hn; simpa [corL] using this)
  have hne : pts zs zs.length ≠ [] := by
    intro e
    have : ((zs.length - 1 : Nat) : Int) ∈ pts zs zs.length := pts_mem.2 ⟨by omega, by omega, by simpa [pv] using h4⟩
    rw [e] at this; cases this
  have hlast : (pts zs zs.length).getLast? = some ((zs.length - 1 : Nat) : Int) := by
    obtain ⟨m, hm⟩ : ∃ m, zs.length = m + 1 := ⟨zs.length - 1, by omega⟩
    rw [hm] at h4
    rw [hm, pts_next, if_neg (by simpa using h4)]
    simp
  have hc0 : 1 ≤ (corL zs).length := by
    rw [hlen]
    cases hR : corR zs (pts zs zs.length) with
    | nil => have := corR_head (zs := zs) (pts zs zs.length); rw [hR, hlast] at this; simp at this
    | cons a t => simp
  refine ⟨hc0, ?_, fun n hn => ?_, fun n hn => ?_, fun n hn => ?_, h3, ?_, fun x hx0 hx => ?_⟩
  · rw [hlen]; exact Nat.le_trans (corR_len _ _) (Nat.le_trans (pts_len _ _) h3)
  · exact (cx_idx hcx n (by omega)).1
  · exact (cx_idx hcx n (by omega)).2 (by omega)
  · have := pts_mem.1 (hmem n hn)
    exact ⟨this.1, this.2.1, pv_fin h this.1 this.2.1 this.2.2⟩
  · have hh := corR_head (zs := zs) (pts zs zs.length)
    rw [hlast] at hh
    cases hR : corR zs (pts zs zs.length) with
    | nil => rw [hR] at hh; simp at hh
    | cons a t =>
      rw [hR] at hh; simp at hh; subst hh
      unfold corL; rw [hR, List.reverse_cons, gd_app_r (by simp)]
      omega
  · have hl := corR_last (zs := zs) (pts zs zs.length)
    have hb := (pts_mem.1 (hmem 0 hc0)).2.1
    refine pts_first (k := zs.length) hx0 (by omega) fun y hy => ?_
    have : gd (corL zs) 0 = y := by
      rw [hy] at hl
      have hg : (corL zs)[0]? = some y := by unfold corL; rw [← List.head?_eq_getElem?, List.head?_reverse]; exact hl
      unfold gd; rw [List.getD_eq_getElem?_getD, hg]; rfl
    omega

/-! ### The lower side of the hull -/
/-- Its height at an exponent: the parts of a fraction, not in lowest terms. -/
def rawN (zs : List Int) : List Int → Int → Int
  | [], _ => 0
  | [k], _ => pv zs k
  | i :: k :: t, j => if j ≤ i then pv zs i else if j ≤ k then pv zs i * (k - j) + pv zs k * (j - i) else rawN zs (k :: t) j
def rawD : List Int → Int → Int
  | [], _ => 1
  | [_], _ => 1
  | i :: k :: t, j => if j ≤ i then 1 else if j ≤ k then k - i else rawD (k :: t) j
theorem gd_cons (a : Int) (l : List Int) (n : Nat) : gd (a :: l) (n + 1) = gd l n := by simp [gd]
theorem gd_zero (a : Int) (l : List Int) : gd (a :: l) 0 = a := by simp [gd]
theorem raw_first (zs : List Int) : ∀ (C : List Int), 1 ≤ C.length → rawN zs C (gd C 0) = pv zs (gd C 0) ∧ rawD C (gd C 0) = 1
  | [], h => by simp at h
  | [k], _ => ⟨rfl, rfl⟩
  | i :: k :: t, _ => by simp [rawN, rawD, gd]
theorem up_le {C : List Int} (hu : ∀ n, n + 1 < C.length → gd C n < gd C (n + 1)) : ∀ {n m : Nat}, n ≤ m → m < C.length → gd C n ≤ gd C m
  | n, 0, h, _ => by obtain rfl : n = 0 := by omega
                     exact Int.le_refl _
  | n, m + 1, h, hm => by
    by_cases e : n = m + 1
    · subst e; exact Int.le_refl _
    · have := up_le hu (n := n) (m := m) (by omega) (by omega)
      have := hu m hm
      omega
theorem up_lt {C : List Int} (hu : ∀ n, n + 1 < C.length → gd C n < gd C (n + 1)) {n m : Nat} (h : n < m) (hm : m < C.length) : gd C n < gd C m := by
  have := up_le hu (n := n + 1) (m := m) h hm
  have := hu n (by omega)
  omega
theorem raw_at (zs : List Int) {j : Int} : ∀ (C : List Int) (n : Nat), (∀ n, n + 1 < C.length → gd C n < gd C (n + 1)) → n + 1 < C.length → gd C n < j → j ≤ gd C (n + 1) →
    rawN zs C j = pv zs (gd C n) * (gd C (n + 1) - j) + pv zs (gd C (n + 1)) * (j - gd C n) ∧ rawD C j = gd C (n + 1) - gd C n
  | [], n, _, h, _, _ => by simp at h
  | [k], n, _, h, _, _ => by simp at h
  | i :: k :: t, 0, _, _, h1, h2 => by
    rw [gd_cons, gd_zero] at h2
    rw [gd_zero] at h1
    have e1 : ¬ j ≤ i := by omega
    simp [rawN, rawD, e1, h2, gd_cons, gd_zero]
  | i :: k :: t, n + 1, hu, h, h1, h2 => by
    rw [gd_cons] at h1 h2
    have hu' : ∀ n, n + 1 < (k :: t).length → gd (k :: t) n < gd (k :: t) (n + 1) := fun m hm => by
      have := hu (m + 1) (by simp at hm ⊢; omega)
      rwa [gd_cons, gd_cons] at this
    have hlen : n + 1 < (k :: t).length := by simp at h ⊢; omega
    have ih := raw_at zs (k :: t) n hu' hlen h1 h2
    have h0 : i < k := by have := hu 0 (by simp); rwa [gd_zero, gd_cons, gd_zero] at this
    have hk : k ≤ gd (k :: t) n := by have := up_le hu' (n := 0) (m := n) (by omega) (by omega); rwa [gd_zero] at this
    have e1 : ¬ j ≤ i := by omega
    have e2 : ¬ j ≤ k := by omega
    rw [gd_cons, gd_cons]
    simp only [rawN, rawD, e1, e2, if_false]
    exact ih
theorem raw_find {C : List Int} {j : Int} (h0 : gd C 0 < j) : ∀ m, m < C.length → j ≤ gd C m → ∃ n, n + 1 < C.length ∧ n + 1 ≤ m ∧ gd C n < j ∧ j ≤ gd C (n + 1)
  | 0, _, h => by omega
  | m + 1, hm, h => by
    by_cases e : gd C m < j
    · exact ⟨m, hm, Nat.le_refl _, e, h⟩
    · obtain ⟨n, h1, h2, h3⟩ := raw_find h0 m (by omega) (by omega)
      exact ⟨n, h1, by omega, h3⟩
/-- Products with a difference of exponents. -/
theorem mul12 {a d : Int} {M : Int} (ha : -M ≤ a ∧ a ≤ M) (hM : 0 ≤ M) (hd : 0 ≤ d ∧ d ≤ 12) : -(12 * M) ≤ a * d ∧ a * d ≤ 12 * M := by
  have : d = 0 ∨ d = 1 ∨ d = 2 ∨ d = 3 ∨ d = 4 ∨ d = 5 ∨ d = 6 ∨ d = 7 ∨ d = 8 ∨ d = 9 ∨ d = 10 ∨ d = 11 ∨ d = 12 := by omega
  rcases this with rfl | rfl | rfl | rfl | rfl | rfl | rfl | rfl | rfl | rfl | rfl | rfl | rfl <;> omega
/-- Everything that is asked of a height. -/
structure Raw (zs C : List Int) (j : Int) : Prop where
  n : -24000000 ≤ rawN zs C j ∧ rawN zs C j ≤ 24000000
  d : 1 ≤ rawD C j ∧ rawD C j ≤ 12
theorem Corn.raw {zs C : List Int} (h : Corn zs C) {j : Int} (h0 : gd C 0 ≤ j) (h1 : j < zs.length) : Raw zs C j := by
  obtain ⟨hz, hp⟩ := And.intro h.zl h.pos
  by_cases e : j = gd C 0
  · subst e
    obtain ⟨e1, e2⟩ := raw_first zs C h.pos
    have := h.pt 0 h.pos
    exact ⟨by rw [e1]; omega, by rw [e2]; omega⟩
  · obtain ⟨n, hn, -, h2, h3⟩ := raw_find (C := C) (j := j) (by omega) (C.length - 1) (by omega) (by have := h.last; omega)
    obtain ⟨e1, e2⟩ := raw_at zs C n h.up hn h2 h3
    obtain ⟨a1, a2, a3, a4⟩ := h.pt n (by omega)
    obtain ⟨b1, b2, b3, b4⟩ := h.pt (n + 1) hn
    have m1 := mul12 (a := pv zs (gd C n)) (d := gd C (n + 1) - j) (M := 1000000) (by omega) (by omega) (by omega)
    have m2 := mul12 (a := pv zs (gd C (n + 1))) (d := j - gd C n) (M := 1000000) (by omega) (by omega) (by omega)
    exact ⟨by rw [e1]; omega, by rw [e2]; omega⟩
theorem Corn.raw_corner {zs C : List Int} (h : Corn zs C) {n : Nat} (hn : n < C.length) : rawN zs C (gd C n) = pv zs (gd C n) * rawD C (gd C n) := by
  cases n with
  | zero => obtain ⟨e1, e2⟩ := raw_first zs C h.pos; rw [e1, e2]; omega
  | succ n =>
    obtain ⟨e1, e2⟩ := raw_at zs C n h.up hn (h.up n hn) (Int.le_refl _)
    rw [e1, e2]; simp
/-- Is a term above the lower side. -/
def ndB (zs C : List Int) (j : Int) : Bool := decide (rawN zs C j < pv zs j * rawD C j)
def ndL (zs C : List Int) (c : Int) : Nat → List Int
  | 0 => []
  | m + 1 => ndL zs C c m ++ if ndB zs C (c + m) = true then [c + m] else []
theorem ndL_len (zs C : List Int) (c : Int) : ∀ m, (ndL zs C c m).length ≤ m
  | 0 => Nat.le_refl _
  | m + 1 => by have := ndL_len zs C c m; simp only [ndL, List.length_append]; split <;> simp <;> omega
theorem Corn.nd_corner {zs C : List Int} (h : Corn zs C) {n : Nat} (hn : n < C.length) : ndB zs C (gd C n) = false := by
  unfold ndB; rw [h.raw_corner hn]; simp
theorem Corn.nd_inf {zs C : List Int} (h : Corn zs C) {j : Int} (h0 : gd C 0 ≤ j) (h1 : j < zs.length) (hi : pv zs j = 1000000000) : ndB zs C j = true := by
  obtain ⟨hn, hd⟩ := h.raw h0 h1
  unfold ndB; rw [hi]; simp; omega
/-- The least whole number that is not below. -/
def lowF (zs C : List Int) (j : Int) : Int := if gd C 0 ≤ j ∧ j < zs.length then -floorI (-rawN zs C j) (rawD C j) else 1000000000
def lowL (zs : List Int) : List Int := tab (fun j => lowF zs (corL zs) j) zs.length
theorem floor_spec {n d : Int} (hd : 1 ≤ d) : floorI n d * d ≤ n ∧ n < floorI n d * d + d := by
  have h := Int.mul_tdiv_add_tmod n d
  have h1 := tmod_lt n d (by omega)
  rw [Int.mul_comm] at h
  unfold floorI
  by_cases e : n.tmod d < 0
  · rw [if_pos e]
    rw [Int.sub_mul]
    omega
  · rw [if_neg e]
    omega
theorem mul_lt_of {a b d : Int} (hd : 1 ≤ d) (h : a * d < b * d) : a < b := Int.lt_of_mul_lt_mul_right h (by omega)
theorem mul_le_of {a b d : Int} (hd : 1 ≤ d) (h : a * d ≤ b * d) : a ≤ b := Int.le_of_mul_le_mul_right h (by omega)
theorem floor_mul {a d : Int} (hd : 1 ≤ d) : floorI (a * d) d = a := by
  obtain ⟨h1, h2⟩ := floor_spec (n := a * d) hd
  have := mul_le_of hd h1
  have : a * d < (floorI (a * d) d + 1) * d := by rw [Int.add_mul]; omega
  have := mul_lt_of hd this
  omega
theorem ceil_spec {n d : Int} (hd : 1 ≤ d) : n ≤ -floorI (-n) d * d ∧ -floorI (-n) d * d < n + d := by
  obtain ⟨h1, h2⟩ := floor_spec (n := -n) hd
  rw [Int.neg_mul]; omega
theorem ceil_mul {a d : Int} (hd : 1 ≤ d) : -floorI (-(a * d)) d = a := by
  rw [← Int.neg_mul, floor_mul hd]; omega
theorem Corn.low_corner {zs C : List Int} (h : Corn zs C) {n : Nat} (hn : n < C.length) : lowF zs C (gd C n) = pv zs (gd C n) := by
  have h1 := h.pt n hn
  have h2 := up_le h.up (n := 0) (m := n) (by omega) hn
  have hr := h.raw h2 h1.2.1
  unfold lowF; rw [if_pos ⟨h2, h1.2.1⟩, h.raw_corner hn, ceil_mul hr.d.1]
theorem Corn.low_at {zs C : List Int} (h : Corn zs C) {j : Int} (h0 : gd C 0 ≤ j) (h1 : j < zs.length) : rawN zs C j ≤ lowF zs C j * rawD C j := by
  have hr := h.raw h0 h1
  unfold lowF; rw [if_pos ⟨h0, h1⟩]
  exact (ceil_spec hr.d.1).1
/-- Within the bounds of a number, so not Infinity. -/
theorem Corn.low_bd {zs C : List Int} (h : Corn zs C) {j : Int} (h0 : gd C 0 ≤ j) (h1 : j < zs.length) : -1000000 ≤ lowF zs C j ∧ lowF zs C j ≤ 1000000 := by
  obtain ⟨hz, hp⟩ := And.intro h.zl h.pos
  by_cases e : j = gd C 0
  · subst e; rw [h.low_corner hp]; exact (h.pt 0 hp).2.2
  · obtain ⟨n, hn, -, h2, h3⟩ := raw_find (C := C) (j := j) (by omega) (C.length - 1) (by omega) (by have := h.last; omega)
    obtain ⟨e1, e2⟩ := raw_at zs C n h.up hn h2 h3
    have a := (h.pt n (by omega)).2.2
    have b := (h.pt (n + 1) hn).2.2
    have hr := h.raw h0 h1
    have hc := ceil_spec (n := rawN zs C j) hr.d.1
    have hl : lowF zs C j = -floorI (-rawN zs C j) (rawD C j) := by unfold lowF; rw [if_pos ⟨h0, h1⟩]
    rw [← hl] at hc
    have u1 := Int.mul_le_mul_of_nonneg_right a.1 (show 0 ≤ gd C (n + 1) - j by omega)
    have u2 := Int.mul_le_mul_of_nonneg_right a.2 (show 0 ≤ gd C (n + 1) - j by omega)
    have v1 := Int.mul_le_mul_of_nonneg_right b.1 (show 0 ≤ j - gd C n by omega)
    have v2 := Int.mul_le_mul_of_nonneg_right b.2 (show 0 ≤ j - gd C n by omega)
    have s1 : -1000000 * rawD C j ≤ rawN zs C j := by rw [e1, e2]; omega
    have s2 : rawN zs C j ≤ 1000000 * rawD C j := by rw [e1, e2]; omega
    constructor
    · exact mul_le_of hr.d.1 (by omega)
    · have : lowF zs C j * rawD C j < 1000001 * rawD C j := by omega
      have := mul_lt_of hr.d.1 this
      omega

/-! ### The least coefficients tell the corners -/
theorem Corn.edge {zs C : List Int} (h : Corn zs C) {n : Nat} (hn : n + 1 < C.length) {y : Int} (h0 : gd C n ≤ y) (h1 : y ≤ gd C (n + 1)) :
    (pv zs (gd C (n + 1)) - pv zs (gd C n)) * (y - gd C n) ≤ (lowF zs C y - pv zs (gd C n)) * (gd C (n + 1) - gd C n) := by
  have b := h.pt (n + 1) hn
  by_cases e : y = gd C n
  · subst e; rw [h.low_corner (by omega)]; simp
  · have hc := up_le h.up (n := 0) (m := n) (by omega) (by omega)
    have hr := h.low_at (j := y) (by omega) (by omega)
    obtain ⟨e1, e2⟩ := raw_at zs C n h.up hn (by omega) h1
    rw [e1, e2] at hr
    generalize lowF zs C y = F at *
    generalize pv zs (gd C n) = A at *
    generalize pv zs (gd C (n + 1)) = B at *
    simp only [Int.mul_sub, Int.sub_mul] at hr ⊢
    omega
theorem Corn.turn {zs C : List Int} (h : Corn zs C) {n : Nat} (hn : n + 2 < C.length) :
    (pv zs (gd C (n + 1)) - pv zs (gd C n)) * (gd C (n + 2) - gd C (n + 1)) < (pv zs (gd C (n + 2)) - pv zs (gd C (n + 1))) * (gd C (n + 1) - gd C n) := by
  have hc := h.cor n hn
  unfold corB at hc
  have hc := of_decide_eq_true hc
  simp only [Int.mul_sub, Int.sub_mul] at hc ⊢
  omega
theorem Corn.right {zs C : List Int} (h : Corn zs C) : ∀ (m n : Nat), n + 2 + m = C.length → ∀ {y : Int}, gd C (n + 1) < y → y < zs.length →
    (pv zs (gd C (n + 1)) - pv zs (gd C n)) * (y - gd C (n + 1)) < (lowF zs C y - pv zs (gd C (n + 1))) * (gd C (n + 1) - gd C n)
  | 0, n, hm, y, h0, h1 => by
    have := h.last
    have e : C.length - 1 = n + 1 := by omega
    rw [e] at this; omega
  | m + 1, n, hm, y, h0, h1 => by
    have hT := h.turn (n := n) (by omega)
    have u1 := h.up n (by omega)
    have u2 := h.up (n + 1) (by omega)
    simp only [Nat.add_assoc, Nat.reduceAdd] at u2
    have key : (pv zs (gd C (n + 2)) - pv zs (gd C (n + 1))) * (y - gd C (n + 1)) ≤ (lowF zs C y - pv zs (gd C (n + 1))) * (gd C (n + 2) - gd C (n + 1)) := by
      by_cases e : y ≤ gd C (n + 2)
      · exact h.edge (n := n + 1) (by omega) (Int.le_of_lt h0) e
      · have ih := Corn.right h m (n + 1) (by omega) (y := y) (Int.lt_of_not_ge e) h1
        simp only [Int.mul_sub, Int.sub_mul] at ih ⊢
        simp only [Nat.add_assoc, Nat.reduceAdd] at ih
        omega
    generalize lowF zs C y = F at *
    generalize pv zs (gd C n) = A at *
    generalize pv zs (gd C (n + 1)) = B at *
    generalize pv zs (gd C (n + 2)) = D at *
    generalize gd C n = a at *
    generalize gd C (n + 1) = b at *
    generalize gd C (n + 2) = c at *
    have k1 := Int.mul_lt_mul_of_pos_right hT (show 0 < y - b by omega)
    have k2 := Int.mul_le_mul_of_nonneg_right key (show 0 ≤ b - a by omega)
    refine mul_lt_of (d := c - b) (by omega) ?_
    have e1 : (B - A) * (y - b) * (c - b) = (B - A) * (c - b) * (y - b) := by rw [Int.mul_assoc, Int.mul_comm (y - b), ← Int.mul_assoc]
    have e2 : (D - B) * (y - b) * (b - a) = (D - B) * (b - a) * (y - b) := by rw [Int.mul_assoc, Int.mul_comm (y - b), ← Int.mul_assoc]
    have e3 : (F - B) * (b - a) * (c - b) = (F - B) * (c - b) * (b - a) := by rw [Int.mul_assoc, Int.mul_comm (b - a), ← Int.mul_assoc]
    rw [e1, e3]
    rw [e2] at k2
    exact Int.lt_of_lt_of_le k1 k2
theorem Corn.left {zs C : List Int} (h : Corn zs C) : ∀ (n : Nat), n + 1 < C.length → ∀ {y : Int}, gd C 0 ≤ y → y ≤ gd C (n + 1) →
    (pv zs (gd C (n + 1)) - pv zs (gd C n)) * (y - gd C n) ≤ (lowF zs C y - pv zs (gd C n)) * (gd C (n + 1) - gd C n) := by
  intro n
  induction n with
  | zero => intro hn y h0 h1; exact h.edge hn h0 h1
  | succ n ih =>
    intro hn y h0 h1
    by_cases e : gd C (n + 1) ≤ y
    · exact h.edge hn e h1
    · have hT := h.turn (n := n) (by omega)
      have u1 := h.up n (by omega)
      have u2 := h.up (n + 1) (by omega)
      have key := ih (by omega) (y := y) h0 (by omega)
      simp only [Nat.add_assoc, Nat.reduceAdd] at u2 ⊢
      generalize lowF zs C y = F at *
      generalize pv zs (gd C n) = A at *
      generalize pv zs (gd C (n + 1)) = B at *
      generalize pv zs (gd C (n + 2)) = D at *
      generalize gd C n = a at *
      generalize gd C (n + 1) = b at *
      generalize gd C (n + 2) = c at *
      have key' : (B - A) * (y - b) ≤ (F - B) * (b - a) := by
        simp only [Int.mul_sub, Int.sub_mul] at key ⊢
        omega
      have k1 := Int.mul_le_mul_of_nonneg_right (Int.le_of_lt hT) (show 0 ≤ b - y by omega)
      have k2 := Int.mul_le_mul_of_nonneg_right key' (show 0 ≤ c - b by omega)
      refine mul_le_of (d := b - a) (by omega) ?_
      have e1 : (D - B) * (y - b) * (b - a) = -((D - B) * (b - a) * (b - y)) := by grind
      have e2 : (B - A) * (y - b) * (c - b) = -((B - A) * (c - b) * (b - y)) := by grind
      have e3 : (F - B) * (c - b) * (b - a) = (F - B) * (b - a) * (c - b) := by grind
      rw [e1, e3]
      rw [e2] at k2
      omega
/-- At a corner it lies strictly below each line between two others; elsewhere not. -/
theorem Corn.strict {zs C : List Int} (h : Corn zs C) {m : Nat} (hm : m < C.length) {i k : Int} (h0 : gd C 0 ≤ i) (h1 : i < gd C m) (h2 : gd C m < k) (h3 : k < zs.length) :
    lowF zs C (gd C m) * (k - i) < lowF zs C i * (k - gd C m) + lowF zs C k * (gd C m - i) := by
  cases m with
  | zero => omega
  | succ n =>
    rw [h.low_corner hm]
    have l := h.left n hm h0 (by omega)
    have r := h.right (C.length - 2 - n) n (by omega) h2 h3
    have u1 := h.up n hm
    generalize lowF zs C i = F at *
    generalize lowF zs C k = G at *
    generalize pv zs (gd C n) = A at *
    generalize pv zs (gd C (n + 1)) = B at *
    generalize gd C n = a at *
    generalize gd C (n + 1) = b at *
    have l' : (B - A) * (i - b) ≤ (F - B) * (b - a) := by
      simp only [Int.mul_sub, Int.sub_mul] at l ⊢
      omega
    have k1 := Int.mul_le_mul_of_nonneg_right l' (show 0 ≤ k - b by omega)
    have k2 := Int.mul_lt_mul_of_pos_right r (show 0 < b - i by omega)
    refine mul_lt_of (d := b - a) (by omega) ?_
    have e1 : (B - A) * (i - b) * (k - b) = -((B - A) * (k - b) * (b - i)) := by grind
    have e2 : (F * (k - b) + G * (b - i)) * (b - a) = (F - B) * (b - a) * (k - b) + (G - B) * (b - a) * (b - i) + B * (k - i) * (b - a) := by grind
    rw [e2]
    rw [e1] at k1
    omega
theorem Corn.loose {zs C : List Int} (h : Corn zs C) {x : Int} (h0 : gd C 0 ≤ x) (h1 : x < zs.length) (hx : x ∉ C) : ∃ i k, gd C 0 ≤ i ∧ i < x ∧ x < k ∧ k < zs.length ∧ lowF zs C i * (k - x) + lowF zs C k * (x - i) ≤ lowF zs C x * (k - i) := by
  have hp := h.pos
  have hne : ∀ n, n < C.length → x ≠ gd C n := fun n hn e => hx (e ▸ gd_mem hn)
  obtain ⟨n, hn, -, h2, h3⟩ := raw_find (C := C) (j := x) (by have := hne 0 hp; omega) (C.length - 1) (by omega) (by have := h.last; omega)
  have hc := up_le h.up (n := 0) (m := n) (by omega) (by omega)
  have hr := h.low_at h0 h1
  obtain ⟨e1, e2⟩ := raw_at zs C n h.up hn h2 h3
  rw [e1, e2] at hr
  refine ⟨gd C n, gd C (n + 1), hc, h2, by have := hne (n + 1) hn; omega, (h.pt (n + 1) hn).2.1, ?_⟩
  rw [h.low_corner (n := n) (by omega), h.low_corner hn]
  exact hr
theorem sorted_ext : ∀ {C D : List Int}, C.Pairwise (· < ·) → D.Pairwise (· < ·) → (∀ x, x ∈ C ↔ x ∈ D) → C = D
  | [], [], _, _, _ => rfl
  | [], b :: D, _, _, h => by have := (h b).2 (by simp); cases this
  | a :: C, [], _, _, h => by have := (h a).1 (by simp); cases this
  | a :: C, b :: D, hC, hD, h => by
    rw [List.pairwise_cons] at hC hD
    have hab : a = b := by
      rcases List.mem_cons.1 ((h a).1 (by simp)) with e | e
      · exact e
      · rcases List.mem_cons.1 ((h b).2 (by simp)) with e' | e'
        · exact e'.symm
        · have := hD.1 a e; have := hC.1 b e'; omega
    subst hab
    rw [sorted_ext hC.2 hD.2 fun x => ?_]
    constructor
    · intro hx
      rcases List.mem_cons.1 ((h x).1 (List.mem_cons_of_mem _ hx)) with e | e
      · have := hC.1 x hx; omega
      · exact e
    · intro hx
      rcases List.mem_cons.1 ((h x).2 (List.mem_cons_of_mem _ hx)) with e | e
      · have := hD.1 x hx; omega
      · exact e
theorem Corn.pw {zs C : List Int} (h : Corn zs C) : C.Pairwise (· < ·) := by
  rw [List.pairwise_iff_getElem]
  intro i j hi hj hij
  have := up_lt h.up hij hj
  rwa [gd_eq C i hi, gd_eq C j hj] at this
theorem raw_congr {zs ys : List Int} : ∀ (C : List Int), (∀ x ∈ C, pv zs x = pv ys x) → ∀ j, rawN zs C j = rawN ys C j
  | [], _, _ => rfl
  | [k], h, _ => h k (by simp)
  | i :: k :: t, h, j => by
    have hi := h i (by simp)
    have hk := h k (by simp)
    have ih := raw_congr (k :: t) (fun x hx => h x (List.mem_cons_of_mem _ hx)) j
    simp only [rawN]
    rw [hi, hk, ih]
/-- Have they the same corners, with the same coefficients. -/
def sameB (zs ys : List Int) : Bool := decide (corL zs = corL ys) && (corL zs).all fun x => pv zs x == pv ys x
theorem same_sub {zs ys : List Int} (hz : Corn zs (corL zs)) (hy : Corn ys (corL ys)) (hl : zs.length = ys.length) (h0 : gd (corL zs) 0 = gd (corL ys) 0)
    (hF : ∀ j : Int, 0 ≤ j → j < zs.length → lowF zs (corL zs) j = lowF ys (corL ys) j) : ∀ x ∈ corL zs, x ∈ corL ys := by
  intro x hx
  obtain ⟨m, hm, rfl⟩ := mem_gd hx
  refine Decidable.by_contra fun hn => ?_
  have hc := up_le hz.up (n := 0) (m := m) (by omega) hm
  have hp := hz.pt m hm
  have hp0 := hz.pt 0 hz.pos
  obtain ⟨i, k, g1, g2, g3, g4, g5⟩ := hy.loose (x := gd (corL zs) m) (by omega) (by omega) hn
  have hs := hz.strict hm (i := i) (k := k) (by omega) g2 g3 (by omega)
  rw [hF _ (by omega) (by omega), hF i (by omega) (by omega), hF k (by omega) (by omega)] at hs
  omega
theorem same_iff {zs ys : List Int} (hz : poB zs = true) (hy : poB ys = true) : decide (lowL zs = lowL ys) = sameB zs ys := by
  have Z := corL_ok hz
  have Y := corL_ok hy
  rw [Bool.eq_iff_iff]
  unfold sameB
  simp only [decide_eq_true_eq, Bool.and_eq_true, List.all_eq_true, beq_iff_eq]
  constructor
  · intro he
    have hl : zs.length = ys.length := by have := congrArg List.length he; simpa [lowL, tab_len] using this
    have hF : ∀ j : Int, 0 ≤ j → j < zs.length → lowF zs (corL zs) j = lowF ys (corL ys) j := fun j h0 h1 => by
      have e := congrArg (fun l => gd l j.toNat) he
      simp only [lowL] at e
      rw [tab_gd _ (by omega), tab_gd _ (by omega)] at e
      have : ((j.toNat : Nat) : Int) = j := by omega
      rwa [this] at e
    have h0 : gd (corL zs) 0 = gd (corL ys) 0 := by
      have a := Z.pt 0 Z.pos
      have b := Y.pt 0 Y.pos
      have fa := Z.low_bd (Int.le_refl _) a.2.1
      have fb := Y.low_bd (Int.le_refl _) b.2.1
      rw [hF _ a.1 a.2.1] at fa
      rw [← hF _ b.1 (by omega)] at fb
      unfold lowF at fa fb
      split at fa
      · split at fb
        · omega
        · omega
      · omega
    have hC : corL zs = corL ys := sorted_ext Z.pw Y.pw fun x => ⟨same_sub Z Y hl h0 hF x, same_sub Y Z hl.symm h0.symm (fun j g0 g1 => (hF j g0 (by omega)).symm) x⟩
    refine ⟨hC, fun x hx => ?_⟩
    obtain ⟨m, hm, rfl⟩ := mem_gd hx
    have hp := Z.pt m hm
    have e1 := Z.low_corner hm
    have hm' : m < (corL ys).length := by rw [← hC]; exact hm
    have e2 := Y.low_corner hm'
    rw [← e1, hF _ hp.1 hp.2.1, hC, e2]
  · rintro ⟨hC, hv⟩
    have l1 := Z.last
    have l2 := Y.last
    rw [← hC] at l2
    have hl : zs.length = ys.length := by omega
    unfold lowL
    rw [← hl]
    refine tab_ext fun j hj => ?_
    unfold lowF
    rw [← hC, raw_congr _ hv, hl]
