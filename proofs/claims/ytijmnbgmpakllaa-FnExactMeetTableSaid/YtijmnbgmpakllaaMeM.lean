import Derived.Test.YtijmnbgmpakllaaStB
/-
  Pairs of rays: determinants, multiplicities, what meets: plain mathematics.
  No condition.
-/
namespace Go.Proofs.Ytijmnbgmpakllaa
set_option linter.unusedSimpArgs false
set_option linter.unusedVariables false
open Go.ChangeShapes Go.WideShapes Go.ChangeAt Go.RowKit
open Go.Sort (grow)

/-- The sign of an integer; the determinant of two rays' steps; their multiplicity. -/
def sgM (n : Int) : Int := if n < 0 then -1 else if 0 < n then 1 else 0
def dtR (a b : Tm) : Int := a.1 * b.2.1 - a.2.1 * b.1
def muR (a b : Tm) : Int := a.2.2 * b.2.2 * ((dtR a b).natAbs : Int)
/-- A move crossed with a ray. -/
def mvX (x y : Int) (a : Tm) : Int := x * a.2.1 - y * a.1
/-- Does a ray meet a moved one. -/
def meB (a b : Tm) (x y : Int) : Bool := decide (sgM (dtR a b) ≠ 0) && (decide (sgM (mvX x y b) = sgM (dtR a b)) && decide (sgM (mvX x y a) = sgM (dtR a b)))
/-- Can a star be moved by two numbers; is a move free. -/
def mvM (x y : Int) : Bool := inB x (-1000) 1000 && (inB y (-1000) 1000 && (decide (x ≠ 0) || decide (y ≠ 0)))
def frAt (l : List Tm) (x y : Int) (k : Nat) : Bool := decide (mvX x y (td l k) ≠ 0)
def frL1 (l : List Tm) (x y : Int) : Bool := l.all fun t => decide (mvX x y t ≠ 0)
def asB (a b : List Tm) (x y : Int) : Bool := ryB a && (ryB b && (mvM x y && (frL1 a x y && frL1 b x y)))
/-- The pairs that meet; the sum of their multiplicities. -/
def pmI (a b : List Tm) (x y : Int) (i : Nat) : List (Nat × Nat) := ((List.range b.length).filter fun k => meB (td a i) (td b k) x y).map fun k => (i, k)
def pmN (a b : List Tm) (x y : Int) (n : Nat) : List (Nat × Nat) := (List.range n).flatMap (pmI a b x y)
def pmA (a b : List Tm) (x y : Int) : List (Nat × Nat) := pmN a b x y a.length
def suP (a b : List Tm) (L : List (Nat × Nat)) : Int := (L.map fun p => muR (td a p.1) (td b p.2)).sum
def meS (a b : List Tm) (x y : Int) : Int := suP a b (pmA a b x y)
/-- The line; the count of two stars; a star's degree. -/
def liR : List Tm := [(-1, -1, 1), (0, 1, 1), (1, 0, 1)]
def meC (a b : List Tm) : Int := meS a b 1000 1
def meD (a : List Tm) : Int := meC a liR
theorem mul_bdI {a x p q : Int} (ha : -p ≤ a ∧ a ≤ p) (hx : -q ≤ x ∧ x ≤ q) : -(p * q) ≤ a * x ∧ a * x ≤ p * q := by
  have h1 := Int.mul_nonneg (show 0 ≤ p - a by omega) (show 0 ≤ q + x by omega)
  have h2 := Int.mul_nonneg (show 0 ≤ p + a by omega) (show 0 ≤ q - x by omega)
  have h3 := Int.mul_nonneg (show 0 ≤ p - a by omega) (show 0 ≤ q - x by omega)
  have h4 := Int.mul_nonneg (show 0 ≤ p + a by omega) (show 0 ≤ q + x by omega)
  simp only [Int.sub_mul, Int.add_mul, Int.mul_sub, Int.mul_add] at h1 h2 h3 h4
  omega
theorem dt_bd {a b : Tm} (ha : ryT a = true) (hb : ryT b = true) : (-400 ≤ a.1 * b.2.1 ∧ a.1 * b.2.1 ≤ 400) ∧ (-400 ≤ a.2.1 * b.1 ∧ a.2.1 * b.1 ≤ 400) ∧ -800 ≤ dtR a b ∧ dtR a b ≤ 800 := by
  obtain ⟨h1, h2, h3, h4, -, -, -⟩ := ryT_parts ha
  obtain ⟨g1, g2, g3, g4, -, -, -⟩ := ryT_parts hb
  have e1 := st_bd ⟨h1, h2⟩ ⟨g3, g4⟩
  have e2 := st_bd ⟨h3, h4⟩ ⟨g1, g2⟩
  unfold dtR
  exact ⟨e1, e2, by omega, by omega⟩
theorem mu_bd {a b : Tm} (ha : ryT a = true) (hb : ryT b = true) : (1 ≤ a.2.2 * b.2.2 ∧ a.2.2 * b.2.2 ≤ 400) ∧ 0 ≤ muR a b ∧ muR a b ≤ 320000 := by
  obtain ⟨-, -, -, -, -, h1, h2⟩ := ryT_parts ha
  obtain ⟨-, -, -, -, -, g1, g2⟩ := ryT_parts hb
  obtain ⟨-, -, d1, d2⟩ := dt_bd ha hb
  have e1 : 1 ≤ a.2.2 * b.2.2 ∧ a.2.2 * b.2.2 ≤ 400 := by
    have q1 := Int.mul_nonneg (show 0 ≤ 20 - a.2.2 by omega) (show 0 ≤ b.2.2 by omega)
    have q2 := Int.mul_nonneg (show 0 ≤ a.2.2 - 1 by omega) (show 0 ≤ b.2.2 by omega)
    rw [Int.sub_mul] at q1 q2
    omega
  refine ⟨e1, ?_⟩
  unfold muR
  have hn : 0 ≤ ((dtR a b).natAbs : Int) ∧ ((dtR a b).natAbs : Int) ≤ 800 := by omega
  have m1 := Int.mul_nonneg (show 0 ≤ 400 - a.2.2 * b.2.2 by omega) hn.1
  have m2 := Int.mul_nonneg (show 0 ≤ a.2.2 * b.2.2 by omega) hn.1
  rw [Int.sub_mul] at m1
  omega
theorem mv_bd {t : Tm} {x y : Int} (ht : ryT t = true) (hx : -1000 ≤ x ∧ x ≤ 1000) (hy : -1000 ≤ y ∧ y ≤ 1000) : (-20000 ≤ x * t.2.1 ∧ x * t.2.1 ≤ 20000) ∧ (-20000 ≤ y * t.1 ∧ y * t.1 ≤ 20000) ∧ -40000 ≤ mvX x y t ∧ mvX x y t ≤ 40000 := by
  obtain ⟨h1, h2, h3, h4, -, -, -⟩ := ryT_parts ht
  have e1 := mul_bdI (p := 1000) (q := 20) hx ⟨h3, h4⟩
  have e2 := mul_bdI (p := 1000) (q := 20) hy ⟨h1, h2⟩
  unfold mvX
  exact ⟨by omega, by omega, by omega, by omega⟩
theorem mvM_iff (x y : Int) : mvM x y = true ↔ (-1000 ≤ x ∧ x ≤ 1000) ∧ (-1000 ≤ y ∧ y ≤ 1000) ∧ (x ≠ 0 ∨ y ≠ 0) := by
  unfold mvM
  rw [Bool.and_eq_true, Bool.and_eq_true, Bool.or_eq_true, inB_iff, inB_iff, decide_eq_true_iff, decide_eq_true_iff]
theorem pmN_zero (a b : List Tm) (x y : Int) : pmN a b x y 0 = [] := rfl
theorem pmN_next (a b : List Tm) (x y : Int) (n : Nat) : pmN a b x y (n + 1) = pmN a b x y n ++ pmI a b x y n := by
  unfold pmN
  rw [List.range_succ, List.flatMap_append]
  simp
def pmJ (a b : List Tm) (x y : Int) (i k : Nat) : List (Nat × Nat) := ((List.range k).filter fun j => meB (td a i) (td b j) x y).map fun j => (i, j)
theorem pmJ_zero (a b : List Tm) (x y : Int) (i : Nat) : pmJ a b x y i 0 = [] := rfl
theorem pmJ_next (a b : List Tm) (x y : Int) (i k : Nat) : pmJ a b x y i (k + 1) = pmJ a b x y i k ++ if meB (td a i) (td b k) x y = true then [(i, k)] else [] := by
  unfold pmJ
  rw [List.range_succ, List.filter_append, List.map_append]
  congr 1
  cases hq : meB (td a i) (td b k) x y <;> simp [hq]
theorem pmJ_all (a b : List Tm) (x y : Int) (i : Nat) : pmJ a b x y i b.length = pmI a b x y i := rfl
theorem pmJ_len (a b : List Tm) (x y : Int) (i k : Nat) : (pmJ a b x y i k).length ≤ k := by
  unfold pmJ
  rw [List.length_map]
  have := List.length_filter_le (fun j => meB (td a i) (td b j) x y) (List.range k)
  rw [List.length_range] at this
  exact this
theorem pmN_len {a b : List Tm} (x y : Int) : ∀ n, (pmN a b x y n).length ≤ n * b.length
  | 0 => by rw [pmN_zero]; simp
  | n + 1 => by
    have h1 := pmN_len (a := a) (b := b) x y n
    have h2 := pmJ_len a b x y n b.length
    rw [pmN_next, List.length_append, ← pmJ_all, Nat.add_mul]
    omega
theorem pmN_mem {a b : List Tm} {x y : Int} {n : Nat} {p : Nat × Nat} : p ∈ pmN a b x y n ↔ p.1 < n ∧ p.2 < b.length ∧ meB (td a p.1) (td b p.2) x y = true := by
  unfold pmN pmI
  rw [List.mem_flatMap]
  constructor
  · rintro ⟨i, hi, hp⟩
    obtain ⟨k, hk, rfl⟩ := List.mem_map.1 hp
    obtain ⟨h1, h2⟩ := List.mem_filter.1 hk
    exact ⟨List.mem_range.1 hi, List.mem_range.1 h1, h2⟩
  · rintro ⟨h1, h2, h3⟩
    exact ⟨p.1, List.mem_range.2 h1, List.mem_map.2 ⟨p.2, List.mem_filter.2 ⟨List.mem_range.2 h2, h3⟩, rfl⟩⟩
theorem suP_app (a b : List Tm) (L M : List (Nat × Nat)) : suP a b (L ++ M) = suP a b L + suP a b M := by unfold suP; rw [List.map_append, List.sum_append]
theorem suP_bd {a b : List Tm} (ha : ryB a = true) (hb : ryB b = true) : ∀ (L : List (Nat × Nat)), (∀ p ∈ L, p.1 < a.length ∧ p.2 < b.length) → 0 ≤ suP a b L ∧ suP a b L ≤ 320000 * (L.length : Int)
  | [], _ => by simp [suP]
  | p :: L, h => by
    obtain ⟨h1, h2⟩ := h p (List.mem_cons_self ..)
    have h3 := suP_bd ha hb L fun q hq => h q (List.mem_cons_of_mem _ hq)
    have h4 := (mu_bd (ryB_at ha h1) (ryB_at hb h2)).2
    have : suP a b (p :: L) = muR (td a p.1) (td b p.2) + suP a b L := by simp [suP]
    rw [this, List.length_cons]
    omega
theorem meS_bd {a b : List Tm} (ha : ryB a = true) (hb : ryB b = true) (x y : Int) : 0 ≤ meS a b x y ∧ meS a b x y ≤ 32000000 := by
  have h1 := suP_bd ha hb (pmA a b x y) fun p hp => by
    obtain ⟨q1, q2, -⟩ := pmN_mem.1 hp
    exact ⟨q1, q2⟩
  have h2 := pmN_len (a := a) (b := b) x y a.length
  have h3 := Nat.mul_le_mul (ryB_le ha) (ryB_le hb)
  have h4 : (pmA a b x y).length ≤ 100 := Nat.le_trans h2 h3
  unfold meS
  omega
/-- What the functions of two rays answer. -/
def pmB (a b : Tm) : Bool := ryT a && ryT b
def pmV (a b : Tm) : Int := if pmB a b = true then muR a b else 0
def pmP (a b : Tm) : Bool := pmB a b && decide (dtR a b = 0)
def mwB (a b : Tm) (x y : Int) : Bool := ryT a && (ryT b && mvM x y)
def mwR (a b : Tm) (x y : Int) : Bool := mwB a b x y && meB a b x y
theorem pm_no1 {a b : Tm} (h : ryT a = false) : pmB a b = false ∧ pmV a b = 0 ∧ pmP a b = false := by unfold pmV pmP pmB; rw [h]; simp
theorem pm_no2 {a b : Tm} (h : ryT b = false) : pmB a b = false ∧ pmV a b = 0 ∧ pmP a b = false := by unfold pmV pmP pmB; rw [h]; simp
theorem pm_yes {a b : Tm} (h : ryT a = true) (h' : ryT b = true) : pmB a b = true ∧ pmV a b = muR a b ∧ pmP a b = decide (dtR a b = 0) := by unfold pmV pmP pmB; rw [h, h']; simp
theorem mw_no1 {a b : Tm} {x y : Int} (h : ryT a = false) : mwB a b x y = false ∧ mwR a b x y = false := by unfold mwR mwB; rw [h]; simp
theorem mw_no2 {a b : Tm} {x y : Int} (h : ryT b = false) : mwB a b x y = false ∧ mwR a b x y = false := by unfold mwR mwB; rw [h]; simp
theorem mw_no3 {a b : Tm} {x y : Int} (h : mvM x y = false) : mwB a b x y = false ∧ mwR a b x y = false := by unfold mwR mwB; rw [h]; simp
theorem mw_yes {a b : Tm} {x y : Int} (h : ryT a = true) (h' : ryT b = true) (h2 : mvM x y = true) : mwB a b x y = true ∧ mwR a b x y = meB a b x y := by unfold mwR mwB; rw [h, h', h2]; simp
theorem frL1_no {l : List Tm} {x y : Int} {k : Nat} (hk : k < l.length) (h : mvX x y (td l k) = 0) : frL1 l x y = false := by
  cases hq : frL1 l x y
  · rfl
  · have := List.all_eq_true.1 hq _ (td_mem hk)
    exact absurd h (of_decide_eq_true this)
theorem frL1_yes {l : List Tm} {x y : Int} (h : ∀ j, j < l.length → mvX x y (td l j) ≠ 0) : frL1 l x y = true := by
  refine List.all_eq_true.2 fun t ht => decide_eq_true ?_
  obtain ⟨j, hj, rfl⟩ := List.getElem_of_mem ht
  have := h j hj
  rwa [td_eq l j hj] at this
theorem liR_good : ryB liR = true := by decide
end Go.Proofs.Ytijmnbgmpakllaa
