/-
  The ends of cells: mathematics; the model's ends.
  Condition: the slices read as what is named; the terms are valid, the cell is one.
-/
import Derived.Test.YtcfplfjllnojoaaGreatCuM
namespace Go.Proofs.YtcfplfjllnojoaaGreat
set_option linter.unusedSimpArgs false
set_option linter.unusedVariables false
open Go.ChangeShapes Go.WideShapes Go.ChangeAt Go.RowKit Go.Maps
open Go.Sort (grow)

/-- An end's weight and its direction, to the left of the way from p to q. -/
def wtP (p q : Pt) : Int := gI (q.1 - p.1) (q.2 - p.2)
def dxP (p q : Pt) : Int := (p.2 - q.2).tdiv (wtP p q)
def dyP (p q : Pt) : Int := (q.1 - p.1).tdiv (wtP p q)
theorem wt_pos {p q : Pt} (h : p ≠ q) : 1 ≤ wtP p q := by
  obtain ⟨p1, p2⟩ := p
  obtain ⟨q1, q2⟩ := q
  unfold wtP
  dsimp only
  by_cases h2 : q2 - p2 = 0
  · have h1 : q1 - p1 ≠ 0 := fun h1 => h (by rw [show p1 = q1 by omega, show p2 = q2 by omega])
    have := gI_pos (n := q2 - p2) h1
    unfold gI at this ⊢
    rwa [Int.gcd_comm]
  · exact gI_pos h2
theorem wt_back (p q : Pt) : gI (p.2 - q.2) (q.1 - p.1) = wtP p q := by
  unfold wtP gI
  rw [show p.2 - q.2 = -(q.2 - p.2) by omega, Int.neg_gcd, Int.gcd_comm]
theorem wt_dx (p q : Pt) : wtP p q * dxP p q = p.2 - q.2 := by
  unfold dxP
  rw [Int.mul_comm]
  refine Int.tdiv_mul_cancel ?_
  unfold wtP gI
  have := Int.gcd_dvd_right (q.1 - p.1) (q.2 - p.2)
  rw [show p.2 - q.2 = -(q.2 - p.2) by omega]
  exact Int.dvd_neg.2 this
theorem wt_dy (p q : Pt) : wtP p q * dyP p q = q.1 - p.1 := by
  unfold dyP
  rw [Int.mul_comm]
  refine Int.tdiv_mul_cancel ?_
  unfold wtP gI
  exact Int.gcd_dvd_left (q.1 - p.1) (q.2 - p.2)
theorem wt_trn (p q r : Pt) : wtP p q * ((r.1 - p.1) * dxP p q + (r.2 - p.2) * dyP p q) = trn p q r := by
  have h1 := wt_dx p q
  have h2 := wt_dy p q
  unfold trn
  generalize wtP p q = W at *
  generalize dxP p q = X at *
  generalize dyP p q = Y at *
  grind
theorem wt_sign {p q : Pt} (h : p ≠ q) (r : Pt) : (r.1 - p.1) * dxP p q + (r.2 - p.2) * dyP p q < 0 ↔ trn p q r < 0 := by
  have h1 := wt_pos h
  have h2 := wt_trn p q r
  generalize (r.1 - p.1) * dxP p q + (r.2 - p.2) * dyP p q = S at *
  generalize wtP p q = W at *
  rw [← h2]
  constructor
  · intro h; exact Int.mul_neg_of_pos_of_neg (by omega) h
  · intro h
    rcases Int.lt_or_le S 0 with h' | h'
    · exact h'
    · have := Int.mul_nonneg (show 0 ≤ W by omega) h'; omega
/-- Coordinates of 0 to 6. -/
def In6 (p : Pt) : Prop := (0 ≤ p.1 ∧ p.1 ≤ 6) ∧ (0 ≤ p.2 ∧ p.2 ≤ 6)
theorem in6_of {t : Tm} (h : plT t = true) : In6 (ptO t) := by
  have := plT_parts h
  unfold In6 ptO; dsimp only; omega
theorem td6 {a W : Int} (ha : -6 ≤ a ∧ a ≤ 6) : -6 ≤ a.tdiv W ∧ a.tdiv W ≤ 6 := by
  have h1 := Int.natAbs_tdiv a W
  have h2 := Nat.div_le_self a.natAbs W.natAbs
  have h3 : (a.tdiv W).natAbs ≤ a.natAbs := by rw [h1]; exact h2
  omega
theorem wt_bd {p q : Pt} (hp : In6 p) (hq : In6 q) (h : p ≠ q) : (1 ≤ wtP p q ∧ wtP p q ≤ 6) ∧ (-6 ≤ dxP p q ∧ dxP p q ≤ 6) ∧ (-6 ≤ dyP p q ∧ dyP p q ≤ 6) := by
  unfold In6 at hp hq
  have h1 := wt_pos h
  refine ⟨⟨h1, ?_⟩, td6 (by omega), td6 (by omega)⟩
  by_cases h2 : q.2 - p.2 = 0
  · have h3 : q.1 - p.1 ≠ 0 := fun h3 => h (Prod.ext (by omega) (by omega))
    have := gI_le (n := q.2 - p.2) h3
    unfold wtP; unfold gI at this ⊢; rw [Int.gcd_comm]; omega
  · have := gI_le (n := q.1 - p.1) h2
    unfold wtP; omega
/-- What an end has besides its side: its direction and its weight. -/
def enT (l : List Tm) (x : List Int) (i k : Nat) : List Int :=
  if rgB l x i k = true then [-dxP (ptO (td l i)) (ptO (td l k)), -dyP (ptO (td l i)) (ptO (td l k)), wtP (ptO (td l i)) (ptO (td l k))]
  else [dxP (ptO (td l i)) (ptO (td l k)), dyP (ptO (td l i)) (ptO (td l k)), wtP (ptO (td l i)) (ptO (td l k))]
theorem enT_yes {l : List Tm} {x : List Int} {i k : Nat} (h : rgB l x i k = true) : enT l x i k = [-dxP (ptO (td l i)) (ptO (td l k)), -dyP (ptO (td l i)) (ptO (td l k)), wtP (ptO (td l i)) (ptO (td l k))] := if_pos h
theorem enT_no {l : List Tm} {x : List Int} {i k : Nat} (h : rgB l x i k = false) : enT l x i k = [dxP (ptO (td l i)) (ptO (td l k)), dyP (ptO (td l i)) (ptO (td l k)), wtP (ptO (td l i)) (ptO (td l k))] := if_neg (by simp [h])
theorem enT_len (l : List Tm) (x : List Int) (i k : Nat) : (enT l x i k).length = 3 := by unfold enT; split <;> rfl
theorem IS3.new (w : World) (a b c : Int) : IS (w.alloc (.cells #[.int .i64 a, .int .i64 b, .int .i64 c] 3)) w.heap.size (.slice (some ⟨w.heap.size, 0, none⟩) 3 3) [a, b, c] :=
  ⟨rfl, .inr ⟨w.heap.size, 3, _, rfl, Nat.le_refl _, heap_alloc_new w _, Nat.le_refl _, by unfold maxLen; omega, rfl, rfl⟩⟩
theorem IS3.new' (w : World) (o : Obj) (a b c : Int) : IS ((w.alloc o).alloc (.cells #[.int .i64 a, .int .i64 b, .int .i64 c] 3)) (w.heap.size + 1) (.slice (some ⟨w.heap.size + 1, 0, none⟩) 3 3) [a, b, c] := by
  have := IS3.new (w.alloc o) a b c
  rwa [World.size_alloc] at this
/-- A new block of 2 integers: from block N on, it holds p. -/
def Bw (N : Nat) (w : World) (v : Value) (p : Pt) : Prop := ∃ g, v = .pointer (some ⟨g, 0, none⟩) ∧ N ≤ g ∧ w.heap[g]? = some (.cells #[.int .i64 p.1, .int .i64 p.2] 64 (0, 0))
theorem Bw.gr {N : Nat} {w w' : World} {v : Value} {p : Pt} (h : Bw N w v p) (hg : Below w.heap.size w w') : Bw N w' v p := by
  obtain ⟨g, h1, h2, h3⟩ := h
  exact ⟨g, h1, h2, (hg.block g (Array.getElem?_eq_some_iff.1 h3).1).trans h3⟩
theorem Bw.new {N : Nat} {w : World} (h : N ≤ w.heap.size) : Bw N (w.alloc (.cells #[.int .i64 0, .int .i64 0] 64)) (.pointer (some ⟨w.heap.size, 0, none⟩)) (0, 0) :=
  ⟨_, rfl, h, heap_alloc_new w _⟩
theorem Bw.ne_new {N : Nat} {w : World} {v : Value} {p : Pt} (h : Bw N w v p) : v ≠ .pointer (some ⟨w.heap.size, 0, none⟩) := by
  obtain ⟨g, rfl, h2, h3⟩ := h
  intro e
  have h4 := (Array.getElem?_eq_some_iff.1 h3).1
  simp only [Value.pointer.injEq, Option.some.injEq, Addr.mk.injEq] at e
  omega
theorem Bw.at {N g : Nat} {w : World} {p : Pt} (h : Bw N w (.pointer (some ⟨g, 0, none⟩)) p) : N ≤ g ∧ w.heap[g]? = some (.cells #[.int .i64 p.1, .int .i64 p.2] 64 (0, 0)) := by
  obtain ⟨g', h1, h2, h3⟩ := h
  simp only [Value.pointer.injEq, Option.some.injEq, Addr.mk.injEq] at h1
  obtain ⟨rfl, -⟩ := h1
  exact ⟨h2, h3⟩
theorem Bw.cells {N g : Nat} {w : World} {p : Pt} (h : Bw N w (.pointer (some ⟨g, 0, none⟩)) p) : (w.cell? ⟨g, 0, none⟩ = some (.int .i64 p.1) ∧ w.cell? ⟨g, 1, none⟩ = some (.int .i64 p.2)) ∧ w.frozen? ⟨g, 0, none⟩ = false ∧ w.frozen? ⟨g, 1, none⟩ = false := by
  have h3 := h.at.2
  refine ⟨⟨?_, ?_⟩, ?_, ?_⟩ <;> simp [World.cell?, World.frozen?, h3]
theorem Bw.put {N g : Nat} {w : World} {p : Pt} (h : Bw N w (.pointer (some ⟨g, 0, none⟩)) p) (q : Pt) : Bw N ((w.setCell ⟨g, 0, none⟩ (.int .i64 q.1)).setCell ⟨g, 1, none⟩ (.int .i64 q.2)) (.pointer (some ⟨g, 0, none⟩)) q := by
  obtain ⟨h1, h2⟩ := h.at
  exact ⟨g, rfl, h1, heap_set_at _ (heap_set_at _ h2)⟩
theorem Bw.off {N g : Nat} {w : World} {v : Value} {p : Pt} (h : Bw N w v p) (hne : v ≠ .pointer (some ⟨g, 0, none⟩)) {u0 u1 : Value} : Bw N ((w.setCell ⟨g, 0, none⟩ u0).setCell ⟨g, 1, none⟩ u1) v p := by
  obtain ⟨g', rfl, h2, h3⟩ := h
  have hn : g' ≠ g := fun e => hne (by rw [e])
  refine ⟨g', rfl, h2, ?_⟩
  iterate 2 rw [Below.heap_setCell _ _ _ g' hn]
  exact h3
abbrev actCu (q0 q1 q2 q3 q4 q5 q6 q9 q10 q11 q12 q13 q28 q29 q30 q31 q32 q33 q34 q35 q36 q37 q38 q39 q40 q41 q42 q43 q44 q45 q46 q47 q48 q49 q50 q51 q52 q53 q54 q55 q56 q57 q58 q59 q60 q61 q62 q63 q64 q65 q66 q67 q68 q69 q70 q71 q72 q73 q74 q75 q76 q77 q78 q79 q80 q81 : Value) (s7 s8 s14 s15 s16 s17 s18 s19 s20 s21 s22 s23 s24 s25 s26 s27 : Value) : Act := { tmps := #[q0, q1, q2, q3, q4, q5, q6, s7, s8, q9, q10, q11, q12, q13, s14, s15, s16, s17, s18, s19, s20, s21, s22, s23, s24, s25, s26, s27, q28, q29, q30, q31, q32, q33, q34, q35, q36, q37, q38, q39, q40, q41, q42, q43, q44, q45, q46, q47, q48, q49, q50, q51, q52, q53, q54, q55, q56, q57, q58, q59, q60, q61, q62, q63, q64, q65, q66, q67, q68, q69, q70, q71, q72, q73, q74, q75, q76, q77, q78, q79, q80, q81], defers := [] }
/-- What is known when some operations are done. -/
structure IvCu (x : World) (l : List Tm) (gt n nt gs caps i k : Nat) (L : Array Bool) (s7 s8 s14 s15 s16 s17 s18 s19 s20 s21 s22 s23 s24 s25 s26 s27 : Value) (w : World) : Prop where
  z : L.size = 18
  bel : Below x.heap.size x w
  c0 : (L.getD 0 false = true) → s14 = .slice (some ⟨gt, 0, none⟩) n nt
  c1 : (L.getD 1 false = true) → s15 = .slice (some ⟨gs, 0, none⟩) 2 caps
  c2 : (L.getD 2 false = true) → s16 = .pointer (some ⟨gs, 0, none⟩)
  c3 : (L.getD 3 false = true) → s17 = .int .i64 (i : Int)
  c4 : (L.getD 4 false = true) → s18 = .pointer (some ⟨gt, i * 3, none⟩)
  c5 : (L.getD 5 false = true) → s19 = tmV (td l i)
  c6 : (L.getD 6 false = true) → s20 = ptV (ptO (td l i))
  c7 : (L.getD 7 false = true) → s21 = .slice (some ⟨gt, 0, none⟩) n nt
  c8 : (L.getD 8 false = true) → s22 = .slice (some ⟨gs, 0, none⟩) 2 caps
  c9 : (L.getD 9 false = true) → s23 = .pointer (some ⟨gs, 1, none⟩)
  c10 : (L.getD 10 false = true) → s24 = .int .i64 (k : Int)
  c11 : (L.getD 11 false = true) → s25 = .pointer (some ⟨gt, k * 3, none⟩)
  c12 : (L.getD 12 false = true) → s26 = tmV (td l k)
  c13 : (L.getD 13 false = true) → s27 = ptV (ptO (td l k))
  b14 : (L.getD 14 false = true) → ∃ p, Bw x.heap.size w s7 p
  b15 : (L.getD 15 false = true) → ∃ p, Bw x.heap.size w s8 p
  d14_15 : (L.getD 14 false = true) → (L.getD 15 false = true) → s7 ≠ s8
  f16 : (L.getD 16 false = true) → (L.getD 14 false = true)
  e16 : (L.getD 16 false = true) → Bw x.heap.size w s7 (ptO (td l i))
  f17 : (L.getD 17 false = true) → (L.getD 15 false = true)
  e17 : (L.getD 17 false = true) → Bw x.heap.size w s8 (ptO (td l k))
theorem IvCu.start (x : World) (l : List Tm) (gt n nt gs caps i k : Nat) (s7 s8 s14 s15 s16 s17 s18 s19 s20 s21 s22 s23 s24 s25 s26 s27 : Value) : IvCu x l gt n nt gs caps i k (Array.replicate 18 false) s7 s8 s14 s15 s16 s17 s18 s19 s20 s21 s22 s23 s24 s25 s26 s27 x.drew where
  z := rfl
  bel := belD (Below.refl _ _)
  c0 := fun h => by simp at h
  c1 := fun h => by simp at h
  c2 := fun h => by simp at h
  c3 := fun h => by simp at h
  c4 := fun h => by simp at h
  c5 := fun h => by simp at h
  c6 := fun h => by simp at h
  c7 := fun h => by simp at h
  c8 := fun h => by simp at h
  c9 := fun h => by simp at h
  c10 := fun h => by simp at h
  c11 := fun h => by simp at h
  c12 := fun h => by simp at h
  c13 := fun h => by simp at h
  b14 := fun h => by simp at h
  b15 := fun h => by simp at h
  d14_15 := fun h => by simp at h
  f16 := fun h => by simp at h
  e16 := fun h => by simp at h
  f17 := fun h => by simp at h
  e17 := fun h => by simp at h
theorem IvCu.o0 {x : World} {l : List Tm} {gt n nt gs caps i k : Nat} {L : Array Bool} {s7 s8 s14 s15 s16 s17 s18 s19 s20 s21 s22 s23 s24 s25 s26 s27 : Value} {w : World} (H : IvCu x l gt n nt gs caps i k L s7 s8 s14 s15 s16 s17 s18 s19 s20 s21 s22 s23 s24 s25 s26 s27 w)  : IvCu x l gt n nt gs caps i k (L.setIfInBounds 0 true) s7 s8 (.slice (some ⟨gt, 0, none⟩) n nt) s15 s16 s17 s18 s19 s20 s21 s22 s23 s24 s25 s26 s27 w where
  z := by rw [Array.size_setIfInBounds]; exact H.z
  bel := H.bel
  c0 := fun _ => rfl
  c1 := fun h => H.c1 (by rwa [getD_set_ne _ (by decide)] at h)
  c2 := fun h => H.c2 (by rwa [getD_set_ne _ (by decide)] at h)
  c3 := fun h => H.c3 (by rwa [getD_set_ne _ (by decide)] at h)
  c4 := fun h => H.c4 (by rwa [getD_set_ne _ (by decide)] at h)
  c5 := fun h => H.c5 (by rwa [getD_set_ne _ (by decide)] at h)
  c6 := fun h => H.c6 (by rwa [getD_set_ne _ (by decide)] at h)
  c7 := fun h => H.c7 (by rwa [getD_set_ne _ (by decide)] at h)
  c8 := fun h => H.c8 (by rwa [getD_set_ne _ (by decide)] at h)
  c9 := fun h => H.c9 (by rwa [getD_set_ne _ (by decide)] at h)
  c10 := fun h => H.c10 (by rwa [getD_set_ne _ (by decide)] at h)
  c11 := fun h => H.c11 (by rwa [getD_set_ne _ (by decide)] at h)
  c12 := fun h => H.c12 (by rwa [getD_set_ne _ (by decide)] at h)
  c13 := fun h => H.c13 (by rwa [getD_set_ne _ (by decide)] at h)
  b14 := fun h => (H.b14 (by rwa [getD_set_ne _ (by decide)] at h))
  b15 := fun h => (H.b15 (by rwa [getD_set_ne _ (by decide)] at h))
  d14_15 := fun h h' => H.d14_15 (by rwa [getD_set_ne _ (by decide)] at h) (by rwa [getD_set_ne _ (by decide)] at h')
  f16 := fun h => by rw [getD_set_ne _ (by decide)]; exact H.f16 (by rwa [getD_set_ne _ (by decide)] at h)
  e16 := fun h => (H.e16 (by rwa [getD_set_ne _ (by decide)] at h))
  f17 := fun h => by rw [getD_set_ne _ (by decide)]; exact H.f17 (by rwa [getD_set_ne _ (by decide)] at h)
  e17 := fun h => (H.e17 (by rwa [getD_set_ne _ (by decide)] at h))
theorem IvCu.o1 {x : World} {l : List Tm} {gt n nt gs caps i k : Nat} {L : Array Bool} {s7 s8 s14 s15 s16 s17 s18 s19 s20 s21 s22 s23 s24 s25 s26 s27 : Value} {w : World} (H : IvCu x l gt n nt gs caps i k L s7 s8 s14 s15 s16 s17 s18 s19 s20 s21 s22 s23 s24 s25 s26 s27 w)  : IvCu x l gt n nt gs caps i k (L.setIfInBounds 1 true) s7 s8 s14 (.slice (some ⟨gs, 0, none⟩) 2 caps) s16 s17 s18 s19 s20 s21 s22 s23 s24 s25 s26 s27 w where
  z := by rw [Array.size_setIfInBounds]; exact H.z
  bel := H.bel
  c0 := fun h => H.c0 (by rwa [getD_set_ne _ (by decide)] at h)
  c1 := fun _ => rfl
  c2 := fun h => H.c2 (by rwa [getD_set_ne _ (by decide)] at h)
  c3 := fun h => H.c3 (by rwa [getD_set_ne _ (by decide)] at h)
  c4 := fun h => H.c4 (by rwa [getD_set_ne _ (by decide)] at h)
  c5 := fun h => H.c5 (by rwa [getD_set_ne _ (by decide)] at h)
  c6 := fun h => H.c6 (by rwa [getD_set_ne _ (by decide)] at h)
  c7 := fun h => H.c7 (by rwa [getD_set_ne _ (by decide)] at h)
  c8 := fun h => H.c8 (by rwa [getD_set_ne _ (by decide)] at h)
  c9 := fun h => H.c9 (by rwa [getD_set_ne _ (by decide)] at h)
  c10 := fun h => H.c10 (by rwa [getD_set_ne _ (by decide)] at h)
  c11 := fun h => H.c11 (by rwa [getD_set_ne _ (by decide)] at h)
  c12 := fun h => H.c12 (by rwa [getD_set_ne _ (by decide)] at h)
  c13 := fun h => H.c13 (by rwa [getD_set_ne _ (by decide)] at h)
  b14 := fun h => (H.b14 (by rwa [getD_set_ne _ (by decide)] at h))
  b15 := fun h => (H.b15 (by rwa [getD_set_ne _ (by decide)] at h))
  d14_15 := fun h h' => H.d14_15 (by rwa [getD_set_ne _ (by decide)] at h) (by rwa [getD_set_ne _ (by decide)] at h')
  f16 := fun h => by rw [getD_set_ne _ (by decide)]; exact H.f16 (by rwa [getD_set_ne _ (by decide)] at h)
  e16 := fun h => (H.e16 (by rwa [getD_set_ne _ (by decide)] at h))
  f17 := fun h => by rw [getD_set_ne _ (by decide)]; exact H.f17 (by rwa [getD_set_ne _ (by decide)] at h)
  e17 := fun h => (H.e17 (by rwa [getD_set_ne _ (by decide)] at h))
theorem IvCu.o2 {x : World} {l : List Tm} {gt n nt gs caps i k : Nat} {L : Array Bool} {s7 s8 s14 s15 s16 s17 s18 s19 s20 s21 s22 s23 s24 s25 s26 s27 : Value} {w : World} (H : IvCu x l gt n nt gs caps i k L s7 s8 s14 s15 s16 s17 s18 s19 s20 s21 s22 s23 s24 s25 s26 s27 w)  : IvCu x l gt n nt gs caps i k (L.setIfInBounds 2 true) s7 s8 s14 s15 (.pointer (some ⟨gs, 0, none⟩)) s17 s18 s19 s20 s21 s22 s23 s24 s25 s26 s27 w where
  z := by rw [Array.size_setIfInBounds]; exact H.z
  bel := H.bel
  c0 := fun h => H.c0 (by rwa [getD_set_ne _ (by decide)] at h)
  c1 := fun h => H.c1 (by rwa [getD_set_ne _ (by decide)] at h)
  c2 := fun _ => rfl
  c3 := fun h => H.c3 (by rwa [getD_set_ne _ (by decide)] at h)
  c4 := fun h => H.c4 (by rwa [getD_set_ne _ (by decide)] at h)
  c5 := fun h => H.c5 (by rwa [getD_set_ne _ (by decide)] at h)
  c6 := fun h => H.c6 (by rwa [getD_set_ne _ (by decide)] at h)
  c7 := fun h => H.c7 (by rwa [getD_set_ne _ (by decide)] at h)
  c8 := fun h => H.c8 (by rwa [getD_set_ne _ (by decide)] at h)
  c9 := fun h => H.c9 (by rwa [getD_set_ne _ (by decide)] at h)
  c10 := fun h => H.c10 (by rwa [getD_set_ne _ (by decide)] at h)
  c11 := fun h => H.c11 (by rwa [getD_set_ne _ (by decide)] at h)
  c12 := fun h => H.c12 (by rwa [getD_set_ne _ (by decide)] at h)
  c13 := fun h => H.c13 (by rwa [getD_set_ne _ (by decide)] at h)
  b14 := fun h => (H.b14 (by rwa [getD_set_ne _ (by decide)] at h))
  b15 := fun h => (H.b15 (by rwa [getD_set_ne _ (by decide)] at h))
  d14_15 := fun h h' => H.d14_15 (by rwa [getD_set_ne _ (by decide)] at h) (by rwa [getD_set_ne _ (by decide)] at h')
  f16 := fun h => by rw [getD_set_ne _ (by decide)]; exact H.f16 (by rwa [getD_set_ne _ (by decide)] at h)
  e16 := fun h => (H.e16 (by rwa [getD_set_ne _ (by decide)] at h))
  f17 := fun h => by rw [getD_set_ne _ (by decide)]; exact H.f17 (by rwa [getD_set_ne _ (by decide)] at h)
  e17 := fun h => (H.e17 (by rwa [getD_set_ne _ (by decide)] at h))
theorem IvCu.o3 {x : World} {l : List Tm} {gt n nt gs caps i k : Nat} {L : Array Bool} {s7 s8 s14 s15 s16 s17 s18 s19 s20 s21 s22 s23 s24 s25 s26 s27 : Value} {w : World} (H : IvCu x l gt n nt gs caps i k L s7 s8 s14 s15 s16 s17 s18 s19 s20 s21 s22 s23 s24 s25 s26 s27 w)  : IvCu x l gt n nt gs caps i k (L.setIfInBounds 3 true) s7 s8 s14 s15 s16 (.int .i64 (i : Int)) s18 s19 s20 s21 s22 s23 s24 s25 s26 s27 w where
  z := by rw [Array.size_setIfInBounds]; exact H.z
  bel := H.bel
  c0 := fun h => H.c0 (by rwa [getD_set_ne _ (by decide)] at h)
  c1 := fun h => H.c1 (by rwa [getD_set_ne _ (by decide)] at h)
  c2 := fun h => H.c2 (by rwa [getD_set_ne _ (by decide)] at h)
  c3 := fun _ => rfl
  c4 := fun h => H.c4 (by rwa [getD_set_ne _ (by decide)] at h)
  c5 := fun h => H.c5 (by rwa [getD_set_ne _ (by decide)] at h)
  c6 := fun h => H.c6 (by rwa [getD_set_ne _ (by decide)] at h)
  c7 := fun h => H.c7 (by rwa [getD_set_ne _ (by decide)] at h)
  c8 := fun h => H.c8 (by rwa [getD_set_ne _ (by decide)] at h)
  c9 := fun h => H.c9 (by rwa [getD_set_ne _ (by decide)] at h)
  c10 := fun h => H.c10 (by rwa [getD_set_ne _ (by decide)] at h)
  c11 := fun h => H.c11 (by rwa [getD_set_ne _ (by decide)] at h)
  c12 := fun h => H.c12 (by rwa [getD_set_ne _ (by decide)] at h)
  c13 := fun h => H.c13 (by rwa [getD_set_ne _ (by decide)] at h)
  b14 := fun h => (H.b14 (by rwa [getD_set_ne _ (by decide)] at h))
  b15 := fun h => (H.b15 (by rwa [getD_set_ne _ (by decide)] at h))
  d14_15 := fun h h' => H.d14_15 (by rwa [getD_set_ne _ (by decide)] at h) (by rwa [getD_set_ne _ (by decide)] at h')
  f16 := fun h => by rw [getD_set_ne _ (by decide)]; exact H.f16 (by rwa [getD_set_ne _ (by decide)] at h)
  e16 := fun h => (H.e16 (by rwa [getD_set_ne _ (by decide)] at h))
  f17 := fun h => by rw [getD_set_ne _ (by decide)]; exact H.f17 (by rwa [getD_set_ne _ (by decide)] at h)
  e17 := fun h => (H.e17 (by rwa [getD_set_ne _ (by decide)] at h))
theorem IvCu.o4 {x : World} {l : List Tm} {gt n nt gs caps i k : Nat} {L : Array Bool} {s7 s8 s14 s15 s16 s17 s18 s19 s20 s21 s22 s23 s24 s25 s26 s27 : Value} {w : World} (H : IvCu x l gt n nt gs caps i k L s7 s8 s14 s15 s16 s17 s18 s19 s20 s21 s22 s23 s24 s25 s26 s27 w)  : IvCu x l gt n nt gs caps i k (L.setIfInBounds 4 true) s7 s8 s14 s15 s16 s17 (.pointer (some ⟨gt, i * 3, none⟩)) s19 s20 s21 s22 s23 s24 s25 s26 s27 w where
  z := by rw [Array.size_setIfInBounds]; exact H.z
  bel := H.bel
  c0 := fun h => H.c0 (by rwa [getD_set_ne _ (by decide)] at h)
  c1 := fun h => H.c1 (by rwa [getD_set_ne _ (by decide)] at h)
  c2 := fun h => H.c2 (by rwa [getD_set_ne _ (by decide)] at h)
  c3 := fun h => H.c3 (by rwa [getD_set_ne _ (by decide)] at h)
  c4 := fun _ => rfl
  c5 := fun h => H.c5 (by rwa [getD_set_ne _ (by decide)] at h)
  c6 := fun h => H.c6 (by rwa [getD_set_ne _ (by decide)] at h)
  c7 := fun h => H.c7 (by rwa [getD_set_ne _ (by decide)] at h)
  c8 := fun h => H.c8 (by rwa [getD_set_ne _ (by decide)] at h)
  c9 := fun h => H.c9 (by rwa [getD_set_ne _ (by decide)] at h)
  c10 := fun h => H.c10 (by rwa [getD_set_ne _ (by decide)] at h)
  c11 := fun h => H.c11 (by rwa [getD_set_ne _ (by decide)] at h)
  c12 := fun h => H.c12 (by rwa [getD_set_ne _ (by decide)] at h)
  c13 := fun h => H.c13 (by rwa [getD_set_ne _ (by decide)] at h)
  b14 := fun h => (H.b14 (by rwa [getD_set_ne _ (by decide)] at h))
  b15 := fun h => (H.b15 (by rwa [getD_set_ne _ (by decide)] at h))
  d14_15 := fun h h' => H.d14_15 (by rwa [getD_set_ne _ (by decide)] at h) (by rwa [getD_set_ne _ (by decide)] at h')
  f16 := fun h => by rw [getD_set_ne _ (by decide)]; exact H.f16 (by rwa [getD_set_ne _ (by decide)] at h)
  e16 := fun h => (H.e16 (by rwa [getD_set_ne _ (by decide)] at h))
  f17 := fun h => by rw [getD_set_ne _ (by decide)]; exact H.f17 (by rwa [getD_set_ne _ (by decide)] at h)
  e17 := fun h => (H.e17 (by rwa [getD_set_ne _ (by decide)] at h))
theorem IvCu.o5 {x : World} {l : List Tm} {gt n nt gs caps i k : Nat} {L : Array Bool} {s7 s8 s14 s15 s16 s17 s18 s19 s20 s21 s22 s23 s24 s25 s26 s27 : Value} {w : World} (H : IvCu x l gt n nt gs caps i k L s7 s8 s14 s15 s16 s17 s18 s19 s20 s21 s22 s23 s24 s25 s26 s27 w)  : IvCu x l gt n nt gs caps i k (L.setIfInBounds 5 true) s7 s8 s14 s15 s16 s17 s18 (tmV (td l i)) s20 s21 s22 s23 s24 s25 s26 s27 w where
  z := by rw [Array.size_setIfInBounds]; exact H.z
  bel := H.bel
  c0 := fun h => H.c0 (by rwa [getD_set_ne _ (by decide)] at h)
  c1 := fun h => H.c1 (by rwa [getD_set_ne _ (by decide)] at h)
  c2 := fun h => H.c2 (by rwa [getD_set_ne _ (by decide)] at h)
  c3 := fun h => H.c3 (by rwa [getD_set_ne _ (by decide)] at h)
  c4 := fun h => H.c4 (by rwa [getD_set_ne _ (by decide)] at h)
  c5 := fun _ => rfl
  c6 := fun h => H.c6 (by rwa [getD_set_ne _ (by decide)] at h)
  c7 := fun h => H.c7 (by rwa [getD_set_ne _ (by decide)] at h)
  c8 := fun h => H.c8 (by rwa [getD_set_ne _ (by decide)] at h)
  c9 := fun h => H.c9 (by rwa [getD_set_ne _ (by decide)] at h)
  c10 := fun h => H.c10 (by rwa [getD_set_ne _ (by decide)] at h)
  c11 := fun h => H.c11 (by rwa [getD_set_ne _ (by decide)] at h)
  c12 := fun h => H.c12 (by rwa [getD_set_ne _ (by decide)] at h)
  c13 := fun h => H.c13 (by rwa [getD_set_ne _ (by decide)] at h)
  b14 := fun h => (H.b14 (by rwa [getD_set_ne _ (by decide)] at h))
  b15 := fun h => (H.b15 (by rwa [getD_set_ne _ (by decide)] at h))
  d14_15 := fun h h' => H.d14_15 (by rwa [getD_set_ne _ (by decide)] at h) (by rwa [getD_set_ne _ (by decide)] at h')
  f16 := fun h => by rw [getD_set_ne _ (by decide)]; exact H.f16 (by rwa [getD_set_ne _ (by decide)] at h)
  e16 := fun h => (H.e16 (by rwa [getD_set_ne _ (by decide)] at h))
  f17 := fun h => by rw [getD_set_ne _ (by decide)]; exact H.f17 (by rwa [getD_set_ne _ (by decide)] at h)
  e17 := fun h => (H.e17 (by rwa [getD_set_ne _ (by decide)] at h))
theorem IvCu.o6 {x : World} {l : List Tm} {gt n nt gs caps i k : Nat} {L : Array Bool} {s7 s8 s14 s15 s16 s17 s18 s19 s20 s21 s22 s23 s24 s25 s26 s27 : Value} {w : World} (H : IvCu x l gt n nt gs caps i k L s7 s8 s14 s15 s16 s17 s18 s19 s20 s21 s22 s23 s24 s25 s26 s27 w) {w' : World} (hg : Below w.heap.size w w') : IvCu x l gt n nt gs caps i k (L.setIfInBounds 6 true) s7 s8 s14 s15 s16 s17 s18 s19 (ptV (ptO (td l i))) s21 s22 s23 s24 s25 s26 s27 w' where
  z := by rw [Array.size_setIfInBounds]; exact H.z
  bel := bel2 H.bel hg
  c0 := fun h => H.c0 (by rwa [getD_set_ne _ (by decide)] at h)
  c1 := fun h => H.c1 (by rwa [getD_set_ne _ (by decide)] at h)
  c2 := fun h => H.c2 (by rwa [getD_set_ne _ (by decide)] at h)
  c3 := fun h => H.c3 (by rwa [getD_set_ne _ (by decide)] at h)
  c4 := fun h => H.c4 (by rwa [getD_set_ne _ (by decide)] at h)
  c5 := fun h => H.c5 (by rwa [getD_set_ne _ (by decide)] at h)
  c6 := fun _ => rfl
  c7 := fun h => H.c7 (by rwa [getD_set_ne _ (by decide)] at h)
  c8 := fun h => H.c8 (by rwa [getD_set_ne _ (by decide)] at h)
  c9 := fun h => H.c9 (by rwa [getD_set_ne _ (by decide)] at h)
  c10 := fun h => H.c10 (by rwa [getD_set_ne _ (by decide)] at h)
  c11 := fun h => H.c11 (by rwa [getD_set_ne _ (by decide)] at h)
  c12 := fun h => H.c12 (by rwa [getD_set_ne _ (by decide)] at h)
  c13 := fun h => H.c13 (by rwa [getD_set_ne _ (by decide)] at h)
  b14 := fun h => (H.b14 (by rwa [getD_set_ne _ (by decide)] at h)).imp fun _ k => k.gr hg
  b15 := fun h => (H.b15 (by rwa [getD_set_ne _ (by decide)] at h)).imp fun _ k => k.gr hg
  d14_15 := fun h h' => H.d14_15 (by rwa [getD_set_ne _ (by decide)] at h) (by rwa [getD_set_ne _ (by decide)] at h')
  f16 := fun h => by rw [getD_set_ne _ (by decide)]; exact H.f16 (by rwa [getD_set_ne _ (by decide)] at h)
  e16 := fun h => (H.e16 (by rwa [getD_set_ne _ (by decide)] at h)).gr hg
  f17 := fun h => by rw [getD_set_ne _ (by decide)]; exact H.f17 (by rwa [getD_set_ne _ (by decide)] at h)
  e17 := fun h => (H.e17 (by rwa [getD_set_ne _ (by decide)] at h)).gr hg
theorem IvCu.o7 {x : World} {l : List Tm} {gt n nt gs caps i k : Nat} {L : Array Bool} {s7 s8 s14 s15 s16 s17 s18 s19 s20 s21 s22 s23 s24 s25 s26 s27 : Value} {w : World} (H : IvCu x l gt n nt gs caps i k L s7 s8 s14 s15 s16 s17 s18 s19 s20 s21 s22 s23 s24 s25 s26 s27 w)  : IvCu x l gt n nt gs caps i k (L.setIfInBounds 7 true) s7 s8 s14 s15 s16 s17 s18 s19 s20 (.slice (some ⟨gt, 0, none⟩) n nt) s22 s23 s24 s25 s26 s27 w where
  z := by rw [Array.size_setIfInBounds]; exact H.z
  bel := H.bel
  c0 := fun h => H.c0 (by rwa [getD_set_ne _ (by decide)] at h)
  c1 := fun h => H.c1 (by rwa [getD_set_ne _ (by decide)] at h)
  c2 := fun h => H.c2 (by rwa [getD_set_ne _ (by decide)] at h)
  c3 := fun h => H.c3 (by rwa [getD_set_ne _ (by decide)] at h)
  c4 := fun h => H.c4 (by rwa [getD_set_ne _ (by decide)] at h)
  c5 := fun h => H.c5 (by rwa [getD_set_ne _ (by decide)] at h)
  c6 := fun h => H.c6 (by rwa [getD_set_ne _ (by decide)] at h)
  c7 := fun _ => rfl
  c8 := fun h => H.c8 (by rwa [getD_set_ne _ (by decide)] at h)
  c9 := fun h => H.c9 (by rwa [getD_set_ne _ (by decide)] at h)
  c10 := fun h => H.c10 (by rwa [getD_set_ne _ (by decide)] at h)
  c11 := fun h => H.c11 (by rwa [getD_set_ne _ (by decide)] at h)
  c12 := fun h => H.c12 (by rwa [getD_set_ne _ (by decide)] at h)
  c13 := fun h => H.c13 (by rwa [getD_set_ne _ (by decide)] at h)
  b14 := fun h => (H.b14 (by rwa [getD_set_ne _ (by decide)] at h))
  b15 := fun h => (H.b15 (by rwa [getD_set_ne _ (by decide)] at h))
  d14_15 := fun h h' => H.d14_15 (by rwa [getD_set_ne _ (by decide)] at h) (by rwa [getD_set_ne _ (by decide)] at h')
  f16 := fun h => by rw [getD_set_ne _ (by decide)]; exact H.f16 (by rwa [getD_set_ne _ (by decide)] at h)
  e16 := fun h => (H.e16 (by rwa [getD_set_ne _ (by decide)] at h))
  f17 := fun h => by rw [getD_set_ne _ (by decide)]; exact H.f17 (by rwa [getD_set_ne _ (by decide)] at h)
  e17 := fun h => (H.e17 (by rwa [getD_set_ne _ (by decide)] at h))
theorem IvCu.o8 {x : World} {l : List Tm} {gt n nt gs caps i k : Nat} {L : Array Bool} {s7 s8 s14 s15 s16 s17 s18 s19 s20 s21 s22 s23 s24 s25 s26 s27 : Value} {w : World} (H : IvCu x l gt n nt gs caps i k L s7 s8 s14 s15 s16 s17 s18 s19 s20 s21 s22 s23 s24 s25 s26 s27 w)  : IvCu x l gt n nt gs caps i k (L.setIfInBounds 8 true) s7 s8 s14 s15 s16 s17 s18 s19 s20 s21 (.slice (some ⟨gs, 0, none⟩) 2 caps) s23 s24 s25 s26 s27 w where
  z := by rw [Array.size_setIfInBounds]; exact H.z
  bel := H.bel
  c0 := fun h => H.c0 (by rwa [getD_set_ne _ (by decide)] at h)
  c1 := fun h => H.c1 (by rwa [getD_set_ne _ (by decide)] at h)
  c2 := fun h => H.c2 (by rwa [getD_set_ne _ (by decide)] at h)
  c3 := fun h => H.c3 (by rwa [getD_set_ne _ (by decide)] at h)
  c4 := fun h => H.c4 (by rwa [getD_set_ne _ (by decide)] at h)
  c5 := fun h => H.c5 (by rwa [getD_set_ne _ (by decide)] at h)
  c6 := fun h => H.c6 (by rwa [getD_set_ne _ (by decide)] at h)
  c7 := fun h => H.c7 (by rwa [getD_set_ne _ (by decide)] at h)
  c8 := fun _ => rfl
  c9 := fun h => H.c9 (by rwa [getD_set_ne _ (by decide)] at h)
  c10 := fun h => H.c10 (by rwa [getD_set_ne _ (by decide)] at h)
  c11 := fun h => H.c11 (by rwa [getD_set_ne _ (by decide)] at h)
  c12 := fun h => H.c12 (by rwa [getD_set_ne _ (by decide)] at h)
  c13 := fun h => H.c13 (by rwa [getD_set_ne _ (by decide)] at h)
  b14 := fun h => (H.b14 (by rwa [getD_set_ne _ (by decide)] at h))
  b15 := fun h => (H.b15 (by rwa [getD_set_ne _ (by decide)] at h))
  d14_15 := fun h h' => H.d14_15 (by rwa [getD_set_ne _ (by decide)] at h) (by rwa [getD_set_ne _ (by decide)] at h')
  f16 := fun h => by rw [getD_set_ne _ (by decide)]; exact H.f16 (by rwa [getD_set_ne _ (by decide)] at h)
  e16 := fun h => (H.e16 (by rwa [getD_set_ne _ (by decide)] at h))
  f17 := fun h => by rw [getD_set_ne _ (by decide)]; exact H.f17 (by rwa [getD_set_ne _ (by decide)] at h)
  e17 := fun h => (H.e17 (by rwa [getD_set_ne _ (by decide)] at h))
theorem IvCu.o9 {x : World} {l : List Tm} {gt n nt gs caps i k : Nat} {L : Array Bool} {s7 s8 s14 s15 s16 s17 s18 s19 s20 s21 s22 s23 s24 s25 s26 s27 : Value} {w : World} (H : IvCu x l gt n nt gs caps i k L s7 s8 s14 s15 s16 s17 s18 s19 s20 s21 s22 s23 s24 s25 s26 s27 w)  : IvCu x l gt n nt gs caps i k (L.setIfInBounds 9 true) s7 s8 s14 s15 s16 s17 s18 s19 s20 s21 s22 (.pointer (some ⟨gs, 1, none⟩)) s24 s25 s26 s27 w where
  z := by rw [Array.size_setIfInBounds]; exact H.z
  bel := H.bel
  c0 := fun h => H.c0 (by rwa [getD_set_ne _ (by decide)] at h)
  c1 := fun h => H.c1 (by rwa [getD_set_ne _ (by decide)] at h)
  c2 := fun h => H.c2 (by rwa [getD_set_ne _ (by decide)] at h)
  c3 := fun h => H.c3 (by rwa [getD_set_ne _ (by decide)] at h)
  c4 := fun h => H.c4 (by rwa [getD_set_ne _ (by decide)] at h)
  c5 := fun h => H.c5 (by rwa [getD_set_ne _ (by decide)] at h)
  c6 := fun h => H.c6 (by rwa [getD_set_ne _ (by decide)] at h)
  c7 := fun h => H.c7 (by rwa [getD_set_ne _ (by decide)] at h)
  c8 := fun h => H.c8 (by rwa [getD_set_ne _ (by decide)] at h)
  c9 := fun _ => rfl
  c10 := fun h => H.c10 (by rwa [getD_set_ne _ (by decide)] at h)
  c11 := fun h => H.c11 (by rwa [getD_set_ne _ (by decide)] at h)
  c12 := fun h => H.c12 (by rwa [getD_set_ne _ (by decide)] at h)
  c13 := fun h => H.c13 (by rwa [getD_set_ne _ (by decide)] at h)
  b14 := fun h => (H.b14 (by rwa [getD_set_ne _ (by decide)] at h))
  b15 := fun h => (H.b15 (by rwa [getD_set_ne _ (by decide)] at h))
  d14_15 := fun h h' => H.d14_15 (by rwa [getD_set_ne _ (by decide)] at h) (by rwa [getD_set_ne _ (by decide)] at h')
  f16 := fun h => by rw [getD_set_ne _ (by decide)]; exact H.f16 (by rwa [getD_set_ne _ (by decide)] at h)
  e16 := fun h => (H.e16 (by rwa [getD_set_ne _ (by decide)] at h))
  f17 := fun h => by rw [getD_set_ne _ (by decide)]; exact H.f17 (by rwa [getD_set_ne _ (by decide)] at h)
  e17 := fun h => (H.e17 (by rwa [getD_set_ne _ (by decide)] at h))
theorem IvCu.o10 {x : World} {l : List Tm} {gt n nt gs caps i k : Nat} {L : Array Bool} {s7 s8 s14 s15 s16 s17 s18 s19 s20 s21 s22 s23 s24 s25 s26 s27 : Value} {w : World} (H : IvCu x l gt n nt gs caps i k L s7 s8 s14 s15 s16 s17 s18 s19 s20 s21 s22 s23 s24 s25 s26 s27 w)  : IvCu x l gt n nt gs caps i k (L.setIfInBounds 10 true) s7 s8 s14 s15 s16 s17 s18 s19 s20 s21 s22 s23 (.int .i64 (k : Int)) s25 s26 s27 w where
  z := by rw [Array.size_setIfInBounds]; exact H.z
  bel := H.bel
  c0 := fun h => H.c0 (by rwa [getD_set_ne _ (by decide)] at h)
  c1 := fun h => H.c1 (by rwa [getD_set_ne _ (by decide)] at h)
  c2 := fun h => H.c2 (by rwa [getD_set_ne _ (by decide)] at h)
  c3 := fun h => H.c3 (by rwa [getD_set_ne _ (by decide)] at h)
  c4 := fun h => H.c4 (by rwa [getD_set_ne _ (by decide)] at h)
  c5 := fun h => H.c5 (by rwa [getD_set_ne _ (by decide)] at h)
  c6 := fun h => H.c6 (by rwa [getD_set_ne _ (by decide)] at h)
  c7 := fun h => H.c7 (by rwa [getD_set_ne _ (by decide)] at h)
  c8 := fun h => H.c8 (by rwa [getD_set_ne _ (by decide)] at h)
  c9 := fun h => H.c9 (by rwa [getD_set_ne _ (by decide)] at h)
  c10 := fun _ => rfl
  c11 := fun h => H.c11 (by rwa [getD_set_ne _ (by decide)] at h)
  c12 := fun h => H.c12 (by rwa [getD_set_ne _ (by decide)] at h)
  c13 := fun h => H.c13 (by rwa [getD_set_ne _ (by decide)] at h)
  b14 := fun h => (H.b14 (by rwa [getD_set_ne _ (by decide)] at h))
  b15 := fun h => (H.b15 (by rwa [getD_set_ne _ (by decide)] at h))
  d14_15 := fun h h' => H.d14_15 (by rwa [getD_set_ne _ (by decide)] at h) (by rwa [getD_set_ne _ (by decide)] at h')
  f16 := fun h => by rw [getD_set_ne _ (by decide)]; exact H.f16 (by rwa [getD_set_ne _ (by decide)] at h)
  e16 := fun h => (H.e16 (by rwa [getD_set_ne _ (by decide)] at h))
  f17 := fun h => by rw [getD_set_ne _ (by decide)]; exact H.f17 (by rwa [getD_set_ne _ (by decide)] at h)
  e17 := fun h => (H.e17 (by rwa [getD_set_ne _ (by decide)] at h))
theorem IvCu.o11 {x : World} {l : List Tm} {gt n nt gs caps i k : Nat} {L : Array Bool} {s7 s8 s14 s15 s16 s17 s18 s19 s20 s21 s22 s23 s24 s25 s26 s27 : Value} {w : World} (H : IvCu x l gt n nt gs caps i k L s7 s8 s14 s15 s16 s17 s18 s19 s20 s21 s22 s23 s24 s25 s26 s27 w)  : IvCu x l gt n nt gs caps i k (L.setIfInBounds 11 true) s7 s8 s14 s15 s16 s17 s18 s19 s20 s21 s22 s23 s24 (.pointer (some ⟨gt, k * 3, none⟩)) s26 s27 w where
  z := by rw [Array.size_setIfInBounds]; exact H.z
  bel := H.bel
  c0 := fun h => H.c0 (by rwa [getD_set_ne _ (by decide)] at h)
  c1 := fun h => H.c1 (by rwa [getD_set_ne _ (by decide)] at h)
  c2 := fun h => H.c2 (by rwa [getD_set_ne _ (by decide)] at h)
  c3 := fun h => H.c3 (by rwa [getD_set_ne _ (by decide)] at h)
  c4 := fun h => H.c4 (by rwa [getD_set_ne _ (by decide)] at h)
  c5 := fun h => H.c5 (by rwa [getD_set_ne _ (by decide)] at h)
  c6 := fun h => H.c6 (by rwa [getD_set_ne _ (by decide)] at h)
  c7 := fun h => H.c7 (by rwa [getD_set_ne _ (by decide)] at h)
  c8 := fun h => H.c8 (by rwa [getD_set_ne _ (by decide)] at h)
  c9 := fun h => H.c9 (by rwa [getD_set_ne _ (by decide)] at h)
  c10 := fun h => H.c10 (by rwa [getD_set_ne _ (by decide)] at h)
  c11 := fun _ => rfl
  c12 := fun h => H.c12 (by rwa [getD_set_ne _ (by decide)] at h)
  c13 := fun h => H.c13 (by rwa [getD_set_ne _ (by decide)] at h)
  b14 := fun h => (H.b14 (by rwa [getD_set_ne _ (by decide)] at h))
  b15 := fun h => (H.b15 (by rwa [getD_set_ne _ (by decide)] at h))
  d14_15 := fun h h' => H.d14_15 (by rwa [getD_set_ne _ (by decide)] at h) (by rwa [getD_set_ne _ (by decide)] at h')
  f16 := fun h => by rw [getD_set_ne _ (by decide)]; exact H.f16 (by rwa [getD_set_ne _ (by decide)] at h)
  e16 := fun h => (H.e16 (by rwa [getD_set_ne _ (by decide)] at h))
  f17 := fun h => by rw [getD_set_ne _ (by decide)]; exact H.f17 (by rwa [getD_set_ne _ (by decide)] at h)
  e17 := fun h => (H.e17 (by rwa [getD_set_ne _ (by decide)] at h))
theorem IvCu.o12 {x : World} {l : List Tm} {gt n nt gs caps i k : Nat} {L : Array Bool} {s7 s8 s14 s15 s16 s17 s18 s19 s20 s21 s22 s23 s24 s25 s26 s27 : Value} {w : World} (H : IvCu x l gt n nt gs caps i k L s7 s8 s14 s15 s16 s17 s18 s19 s20 s21 s22 s23 s24 s25 s26 s27 w)  : IvCu x l gt n nt gs caps i k (L.setIfInBounds 12 true) s7 s8 s14 s15 s16 s17 s18 s19 s20 s21 s22 s23 s24 s25 (tmV (td l k)) s27 w where
  z := by rw [Array.size_setIfInBounds]; exact H.z
  bel := H.bel
  c0 := fun h => H.c0 (by rwa [getD_set_ne _ (by decide)] at h)
  c1 := fun h => H.c1 (by rwa [getD_set_ne _ (by decide)] at h)
  c2 := fun h => H.c2 (by rwa [getD_set_ne _ (by decide)] at h)
  c3 := fun h => H.c3 (by rwa [getD_set_ne _ (by decide)] at h)
  c4 := fun h => H.c4 (by rwa [getD_set_ne _ (by decide)] at h)
  c5 := fun h => H.c5 (by rwa [getD_set_ne _ (by decide)] at h)
  c6 := fun h => H.c6 (by rwa [getD_set_ne _ (by decide)] at h)
  c7 := fun h => H.c7 (by rwa [getD_set_ne _ (by decide)] at h)
  c8 := fun h => H.c8 (by rwa [getD_set_ne _ (by decide)] at h)
  c9 := fun h => H.c9 (by rwa [getD_set_ne _ (by decide)] at h)
  c10 := fun h => H.c10 (by rwa [getD_set_ne _ (by decide)] at h)
  c11 := fun h => H.c11 (by rwa [getD_set_ne _ (by decide)] at h)
  c12 := fun _ => rfl
  c13 := fun h => H.c13 (by rwa [getD_set_ne _ (by decide)] at h)
  b14 := fun h => (H.b14 (by rwa [getD_set_ne _ (by decide)] at h))
  b15 := fun h => (H.b15 (by rwa [getD_set_ne _ (by decide)] at h))
  d14_15 := fun h h' => H.d14_15 (by rwa [getD_set_ne _ (by decide)] at h) (by rwa [getD_set_ne _ (by decide)] at h')
  f16 := fun h => by rw [getD_set_ne _ (by decide)]; exact H.f16 (by rwa [getD_set_ne _ (by decide)] at h)
  e16 := fun h => (H.e16 (by rwa [getD_set_ne _ (by decide)] at h))
  f17 := fun h => by rw [getD_set_ne _ (by decide)]; exact H.f17 (by rwa [getD_set_ne _ (by decide)] at h)
  e17 := fun h => (H.e17 (by rwa [getD_set_ne _ (by decide)] at h))
theorem IvCu.o13 {x : World} {l : List Tm} {gt n nt gs caps i k : Nat} {L : Array Bool} {s7 s8 s14 s15 s16 s17 s18 s19 s20 s21 s22 s23 s24 s25 s26 s27 : Value} {w : World} (H : IvCu x l gt n nt gs caps i k L s7 s8 s14 s15 s16 s17 s18 s19 s20 s21 s22 s23 s24 s25 s26 s27 w) {w' : World} (hg : Below w.heap.size w w') : IvCu x l gt n nt gs caps i k (L.setIfInBounds 13 true) s7 s8 s14 s15 s16 s17 s18 s19 s20 s21 s22 s23 s24 s25 s26 (ptV (ptO (td l k))) w' where
  z := by rw [Array.size_setIfInBounds]; exact H.z
  bel := bel2 H.bel hg
  c0 := fun h => H.c0 (by rwa [getD_set_ne _ (by decide)] at h)
  c1 := fun h => H.c1 (by rwa [getD_set_ne _ (by decide)] at h)
  c2 := fun h => H.c2 (by rwa [getD_set_ne _ (by decide)] at h)
  c3 := fun h => H.c3 (by rwa [getD_set_ne _ (by decide)] at h)
  c4 := fun h => H.c4 (by rwa [getD_set_ne _ (by decide)] at h)
  c5 := fun h => H.c5 (by rwa [getD_set_ne _ (by decide)] at h)
  c6 := fun h => H.c6 (by rwa [getD_set_ne _ (by decide)] at h)
  c7 := fun h => H.c7 (by rwa [getD_set_ne _ (by decide)] at h)
  c8 := fun h => H.c8 (by rwa [getD_set_ne _ (by decide)] at h)
  c9 := fun h => H.c9 (by rwa [getD_set_ne _ (by decide)] at h)
  c10 := fun h => H.c10 (by rwa [getD_set_ne _ (by decide)] at h)
  c11 := fun h => H.c11 (by rwa [getD_set_ne _ (by decide)] at h)
  c12 := fun h => H.c12 (by rwa [getD_set_ne _ (by decide)] at h)
  c13 := fun _ => rfl
  b14 := fun h => (H.b14 (by rwa [getD_set_ne _ (by decide)] at h)).imp fun _ k => k.gr hg
  b15 := fun h => (H.b15 (by rwa [getD_set_ne _ (by decide)] at h)).imp fun _ k => k.gr hg
  d14_15 := fun h h' => H.d14_15 (by rwa [getD_set_ne _ (by decide)] at h) (by rwa [getD_set_ne _ (by decide)] at h')
  f16 := fun h => by rw [getD_set_ne _ (by decide)]; exact H.f16 (by rwa [getD_set_ne _ (by decide)] at h)
  e16 := fun h => (H.e16 (by rwa [getD_set_ne _ (by decide)] at h)).gr hg
  f17 := fun h => by rw [getD_set_ne _ (by decide)]; exact H.f17 (by rwa [getD_set_ne _ (by decide)] at h)
  e17 := fun h => (H.e17 (by rwa [getD_set_ne _ (by decide)] at h)).gr hg
theorem IvCu.o14 {x : World} {l : List Tm} {gt n nt gs caps i k : Nat} {L : Array Bool} {s7 s8 s14 s15 s16 s17 s18 s19 s20 s21 s22 s23 s24 s25 s26 s27 : Value} {w : World} (H : IvCu x l gt n nt gs caps i k L s7 s8 s14 s15 s16 s17 s18 s19 s20 s21 s22 s23 s24 s25 s26 s27 w) (hN : L.getD 14 true = false) : IvCu x l gt n nt gs caps i k (L.setIfInBounds 14 true) (.pointer (some ⟨w.heap.size, 0, none⟩)) s8 s14 s15 s16 s17 s18 s19 s20 s21 s22 s23 s24 s25 s26 s27 (w.alloc (.cells #[.int .i64 0, .int .i64 0] 64)) where
  z := by rw [Array.size_setIfInBounds]; exact H.z
  bel := belA1 H.bel _
  c0 := fun h => H.c0 (by rwa [getD_set_ne _ (by decide)] at h)
  c1 := fun h => H.c1 (by rwa [getD_set_ne _ (by decide)] at h)
  c2 := fun h => H.c2 (by rwa [getD_set_ne _ (by decide)] at h)
  c3 := fun h => H.c3 (by rwa [getD_set_ne _ (by decide)] at h)
  c4 := fun h => H.c4 (by rwa [getD_set_ne _ (by decide)] at h)
  c5 := fun h => H.c5 (by rwa [getD_set_ne _ (by decide)] at h)
  c6 := fun h => H.c6 (by rwa [getD_set_ne _ (by decide)] at h)
  c7 := fun h => H.c7 (by rwa [getD_set_ne _ (by decide)] at h)
  c8 := fun h => H.c8 (by rwa [getD_set_ne _ (by decide)] at h)
  c9 := fun h => H.c9 (by rwa [getD_set_ne _ (by decide)] at h)
  c10 := fun h => H.c10 (by rwa [getD_set_ne _ (by decide)] at h)
  c11 := fun h => H.c11 (by rwa [getD_set_ne _ (by decide)] at h)
  c12 := fun h => H.c12 (by rwa [getD_set_ne _ (by decide)] at h)
  c13 := fun h => H.c13 (by rwa [getD_set_ne _ (by decide)] at h)
  b14 := fun _ => ⟨_, Bw.new H.bel.size⟩
  b15 := fun h => (H.b15 (by rwa [getD_set_ne _ (by decide)] at h)).imp fun _ k => k.gr ((Below.refl _ _).alloc (Nat.le_refl _) _)
  d14_15 := fun h h' e => by obtain ⟨p, k⟩ := H.b15 (by rwa [getD_set_ne _ (by decide)] at h'); exact k.ne_new e.symm
  f16 := fun _ => getD_set_same H.z (by decide)
  e16 := fun h => (notl hN (H.f16 (by rwa [getD_set_ne _ (by decide)] at h))).elim
  f17 := fun h => by rw [getD_set_ne _ (by decide)]; exact H.f17 (by rwa [getD_set_ne _ (by decide)] at h)
  e17 := fun h => (H.e17 (by rwa [getD_set_ne _ (by decide)] at h)).gr ((Below.refl _ _).alloc (Nat.le_refl _) _)
theorem IvCu.o15 {x : World} {l : List Tm} {gt n nt gs caps i k : Nat} {L : Array Bool} {s7 s8 s14 s15 s16 s17 s18 s19 s20 s21 s22 s23 s24 s25 s26 s27 : Value} {w : World} (H : IvCu x l gt n nt gs caps i k L s7 s8 s14 s15 s16 s17 s18 s19 s20 s21 s22 s23 s24 s25 s26 s27 w) (hN : L.getD 15 true = false) : IvCu x l gt n nt gs caps i k (L.setIfInBounds 15 true) s7 (.pointer (some ⟨w.heap.size, 0, none⟩)) s14 s15 s16 s17 s18 s19 s20 s21 s22 s23 s24 s25 s26 s27 (w.alloc (.cells #[.int .i64 0, .int .i64 0] 64)) where
  z := by rw [Array.size_setIfInBounds]; exact H.z
  bel := belA1 H.bel _
  c0 := fun h => H.c0 (by rwa [getD_set_ne _ (by decide)] at h)
  c1 := fun h => H.c1 (by rwa [getD_set_ne _ (by decide)] at h)
  c2 := fun h => H.c2 (by rwa [getD_set_ne _ (by decide)] at h)
  c3 := fun h => H.c3 (by rwa [getD_set_ne _ (by decide)] at h)
  c4 := fun h => H.c4 (by rwa [getD_set_ne _ (by decide)] at h)
  c5 := fun h => H.c5 (by rwa [getD_set_ne _ (by decide)] at h)
  c6 := fun h => H.c6 (by rwa [getD_set_ne _ (by decide)] at h)
  c7 := fun h => H.c7 (by rwa [getD_set_ne _ (by decide)] at h)
  c8 := fun h => H.c8 (by rwa [getD_set_ne _ (by decide)] at h)
  c9 := fun h => H.c9 (by rwa [getD_set_ne _ (by decide)] at h)
  c10 := fun h => H.c10 (by rwa [getD_set_ne _ (by decide)] at h)
  c11 := fun h => H.c11 (by rwa [getD_set_ne _ (by decide)] at h)
  c12 := fun h => H.c12 (by rwa [getD_set_ne _ (by decide)] at h)
  c13 := fun h => H.c13 (by rwa [getD_set_ne _ (by decide)] at h)
  b14 := fun h => (H.b14 (by rwa [getD_set_ne _ (by decide)] at h)).imp fun _ k => k.gr ((Below.refl _ _).alloc (Nat.le_refl _) _)
  b15 := fun _ => ⟨_, Bw.new H.bel.size⟩
  d14_15 := fun h h' e => by obtain ⟨p, k⟩ := H.b14 (by rwa [getD_set_ne _ (by decide)] at h); exact k.ne_new e
  f16 := fun h => by rw [getD_set_ne _ (by decide)]; exact H.f16 (by rwa [getD_set_ne _ (by decide)] at h)
  e16 := fun h => (H.e16 (by rwa [getD_set_ne _ (by decide)] at h)).gr ((Below.refl _ _).alloc (Nat.le_refl _) _)
  f17 := fun _ => getD_set_same H.z (by decide)
  e17 := fun h => (notl hN (H.f17 (by rwa [getD_set_ne _ (by decide)] at h))).elim
theorem IvCu.o16 {x : World} {l : List Tm} {gt n nt gs caps i k : Nat} {L : Array Bool} {s7 s8 s14 s15 s16 s17 s18 s19 s20 s21 s22 s23 s24 s25 s26 s27 : Value} {w : World} (H : IvCu x l gt n nt gs caps i k L s7 s8 s14 s15 s16 s17 s18 s19 s20 s21 s22 s23 s24 s25 s26 s27 w) (l14 : L.getD 14 false = true) (l15 : L.getD 15 false = true) {g : Nat} (hs : s7 = .pointer (some ⟨g, 0, none⟩)) {p : _} (hb : Bw x.heap.size w s7 p) (hge : x.heap.size ≤ g) : IvCu x l gt n nt gs caps i k (L.setIfInBounds 16 true) s7 s8 s14 s15 s16 s17 s18 s19 s20 s21 s22 s23 s24 s25 s26 s27 ((w.setCell ⟨g, 0, none⟩ (.int .i64 (ptO (td l i)).1)).setCell ⟨g, 1, none⟩ (.int .i64 (ptO (td l i)).2)) where
  z := by rw [Array.size_setIfInBounds]; exact H.z
  bel := belS (belS (H.bel) hge _ _) hge _ _
  c0 := fun h => H.c0 (by rwa [getD_set_ne _ (by decide)] at h)
  c1 := fun h => H.c1 (by rwa [getD_set_ne _ (by decide)] at h)
  c2 := fun h => H.c2 (by rwa [getD_set_ne _ (by decide)] at h)
  c3 := fun h => H.c3 (by rwa [getD_set_ne _ (by decide)] at h)
  c4 := fun h => H.c4 (by rwa [getD_set_ne _ (by decide)] at h)
  c5 := fun h => H.c5 (by rwa [getD_set_ne _ (by decide)] at h)
  c6 := fun h => H.c6 (by rwa [getD_set_ne _ (by decide)] at h)
  c7 := fun h => H.c7 (by rwa [getD_set_ne _ (by decide)] at h)
  c8 := fun h => H.c8 (by rwa [getD_set_ne _ (by decide)] at h)
  c9 := fun h => H.c9 (by rwa [getD_set_ne _ (by decide)] at h)
  c10 := fun h => H.c10 (by rwa [getD_set_ne _ (by decide)] at h)
  c11 := fun h => H.c11 (by rwa [getD_set_ne _ (by decide)] at h)
  c12 := fun h => H.c12 (by rwa [getD_set_ne _ (by decide)] at h)
  c13 := fun h => H.c13 (by rwa [getD_set_ne _ (by decide)] at h)
  b14 := fun _ => ⟨_, by rw [hs]; exact Bw.put (hs ▸ hb) (ptO (td l i))⟩
  b15 := fun h => (H.b15 (by rwa [getD_set_ne _ (by decide)] at h)).imp fun _ k => k.off (fun e => H.d14_15 l14 l15 (by rw [hs, e]))
  d14_15 := fun h h' => H.d14_15 (by rwa [getD_set_ne _ (by decide)] at h) (by rwa [getD_set_ne _ (by decide)] at h')
  f16 := fun _ => by rw [getD_set_ne _ (by decide)]; exact l14
  e16 := fun _ => by rw [hs]; exact Bw.put (hs ▸ hb) _
  f17 := fun h => by rw [getD_set_ne _ (by decide)]; exact H.f17 (by rwa [getD_set_ne _ (by decide)] at h)
  e17 := fun h => (H.e17 (by rwa [getD_set_ne _ (by decide)] at h)).off (fun e => H.d14_15 l14 l15 (by rw [hs, e]))
theorem IvCu.o17 {x : World} {l : List Tm} {gt n nt gs caps i k : Nat} {L : Array Bool} {s7 s8 s14 s15 s16 s17 s18 s19 s20 s21 s22 s23 s24 s25 s26 s27 : Value} {w : World} (H : IvCu x l gt n nt gs caps i k L s7 s8 s14 s15 s16 s17 s18 s19 s20 s21 s22 s23 s24 s25 s26 s27 w) (l14 : L.getD 14 false = true) (l15 : L.getD 15 false = true) {g : Nat} (hs : s8 = .pointer (some ⟨g, 0, none⟩)) {p : _} (hb : Bw x.heap.size w s8 p) (hge : x.heap.size ≤ g) : IvCu x l gt n nt gs caps i k (L.setIfInBounds 17 true) s7 s8 s14 s15 s16 s17 s18 s19 s20 s21 s22 s23 s24 s25 s26 s27 ((w.setCell ⟨g, 0, none⟩ (.int .i64 (ptO (td l k)).1)).setCell ⟨g, 1, none⟩ (.int .i64 (ptO (td l k)).2)) where
  z := by rw [Array.size_setIfInBounds]; exact H.z
  bel := belS (belS (H.bel) hge _ _) hge _ _
  c0 := fun h => H.c0 (by rwa [getD_set_ne _ (by decide)] at h)
  c1 := fun h => H.c1 (by rwa [getD_set_ne _ (by decide)] at h)
  c2 := fun h => H.c2 (by rwa [getD_set_ne _ (by decide)] at h)
  c3 := fun h => H.c3 (by rwa [getD_set_ne _ (by decide)] at h)
  c4 := fun h => H.c4 (by rwa [getD_set_ne _ (by decide)] at h)
  c5 := fun h => H.c5 (by rwa [getD_set_ne _ (by decide)] at h)
  c6 := fun h => H.c6 (by rwa [getD_set_ne _ (by decide)] at h)
  c7 := fun h => H.c7 (by rwa [getD_set_ne _ (by decide)] at h)
  c8 := fun h => H.c8 (by rwa [getD_set_ne _ (by decide)] at h)
  c9 := fun h => H.c9 (by rwa [getD_set_ne _ (by decide)] at h)
  c10 := fun h => H.c10 (by rwa [getD_set_ne _ (by decide)] at h)
  c11 := fun h => H.c11 (by rwa [getD_set_ne _ (by decide)] at h)
  c12 := fun h => H.c12 (by rwa [getD_set_ne _ (by decide)] at h)
  c13 := fun h => H.c13 (by rwa [getD_set_ne _ (by decide)] at h)
  b14 := fun h => (H.b14 (by rwa [getD_set_ne _ (by decide)] at h)).imp fun _ k => k.off (fun e => H.d14_15 l14 l15 (by rw [hs, e]))
  b15 := fun _ => ⟨_, by rw [hs]; exact Bw.put (hs ▸ hb) (ptO (td l k))⟩
  d14_15 := fun h h' => H.d14_15 (by rwa [getD_set_ne _ (by decide)] at h) (by rwa [getD_set_ne _ (by decide)] at h')
  f16 := fun h => by rw [getD_set_ne _ (by decide)]; exact H.f16 (by rwa [getD_set_ne _ (by decide)] at h)
  e16 := fun h => (H.e16 (by rwa [getD_set_ne _ (by decide)] at h)).off (fun e => H.d14_15 l14 l15 (by rw [hs, e]))
  f17 := fun _ => by rw [getD_set_ne _ (by decide)]; exact l15
  e17 := fun _ => by rw [hs]; exact Bw.put (hs ▸ hb) _

set_option maxHeartbeats 4000000 in
set_option maxRecDepth 100000 in
theorem cuEnd_any (w : World) (B B' B'' : Nat) (v c s : Value) (l : List Tm) (x : List Int) (i k : Nat) (h : TmS w B v l) (hc : IS w B' c x) (hs : IS w B'' s [(i : Int), (k : Int)]) (hl : plB l = true) (hx : x ∈ ceL l) (he : [(i : Int), (k : Int)] ∈ sdL l x) :
    Calls Tryz.prog 17 #[v, c, s] w fun e w' => ∃ r, e = .returned r ∧ IS w' w.heap.size r (enT l x i k) ∧ Below w.heap.size w w' := by
  obtain ⟨i', k', hik, hkl, e3, -, -⟩ := side_of hl hx he
  simp only [List.cons.injEq, and_true] at e3
  obtain rfl : i = i' := by omega
  obtain rfl : k = k' := by omega
  have hil : i < l.length := by omega
  have HL := Lib.hid hl
  have HX := Lib.hid hx
  have HRG := Lib.hid (rg_hull hl hx he)
  have HNE := Lib.hid (ptO_ne hl hil hkl (by omega : i ≠ k))
  have HP6 := Lib.hid (And.intro (in6_of (plB_at hl hil)) (in6_of (plB_at hl hkl)))
  have H0 := Lib.hid h
  have HC0 := Lib.hid hc
  obtain ⟨At, nt, rfl, -, htp⟩ := TmS.parts h
  obtain ⟨gt, hg1, ht0⟩ := htp i hil
  obtain ⟨gt', hg2, hu0⟩ := htp k hkl
  subst hg1
  cases hg2
  obtain ⟨As, caps, rfl, -, hsp⟩ := hs.parts
  obtain ⟨gs, hg3, hs0⟩ := hsp 0 (by simp)
  obtain ⟨gs', hg4, hs1⟩ := hsp 1 (by simp)
  subst hg3
  cases hg4
  have hs0' : w.cell? ⟨gs, 0, none⟩ = some (.int .i64 (i : Int)) := hs0
  have hs1' : w.cell? ⟨gs, 1, none⟩ = some (.int .i64 (k : Int)) := hs1
  obtain ⟨n, hn⟩ : ∃ n, n = l.length := ⟨_, rfl⟩
  have HN := Lib.hid hn
  rw [← hn] at hil hkl ⊢
  rw [show ([(i : Int), (k : Int)] : List Int).length = 2 from rfl]
  have l1 : (i : Int) < (n : Int) := by omega
  have l2 : (k : Int) < (n : Int) := by omega
  have HXC := Lib.hid (And.intro (And.intro ht0 hu0) (And.intro hs0' hs1'))
  have HQ1 := Lib.hid (fun t W => cePoint_any t W)
  obtain ⟨p, hp⟩ : ∃ p, p = ptO (td l i) := ⟨_, rfl⟩
  obtain ⟨q, hq⟩ : ∃ q, q = ptO (td l k) := ⟨_, rfl⟩
  have HPD := Lib.hid (And.intro hp hq)
  rw [← hp, ← hq] at HNE HP6
  clear h hc hs hl hx he htp hsp hs0 hs1 ht0 hu0 hs0' hs1' hn hp hq
  go_enter Tryz.func17, Tryz.ntmps17
  go_wp2
  refine wp_region_inv (by kernel_rfl) (fun L a' w' => ∃ s7 s8 s14 s15 s16 s17 s18 s19 s20 s21 s22 s23 s24 s25 s26 s27, a' = actCu (Value.slice (some { block := gt, off := 0 }) n nt) c (Value.slice (some { block := gs, off := 0 }) 2 caps) undef undef undef (Value.slice none 0 0) undef undef undef undef undef undef undef undef undef undef undef undef undef undef undef undef undef undef undef undef undef undef undef undef undef undef undef undef undef undef undef undef undef undef undef undef undef undef undef undef undef undef undef undef undef undef undef undef undef undef undef undef undef undef undef undef undef undef undef s7 s8 s14 s15 s16 s17 s18 s19 s20 s21 s22 s23 s24 s25 s26 s27 ∧ IvCu w l gt n nt gs caps i k L s7 s8 s14 s15 s16 s17 s18 s19 s20 s21 s22 s23 s24 s25 s26 s27 w') ?_ ?_ ?_
  · exact ⟨_, _, _, _, _, _, _, _, _, _, _, _, _, _, _, _, rfl, IvCu.start w l gt n nt gs caps i k _ _ _ _ _ _ _ _ _ _ _ _ _ _ _ _ ⟩
  · rintro L a' w' i ⟨s7, s8, s14, s15, s16, s17, s18, s19, s20, s21, s22, s23, s24, s25, s26, s27, rfl, H⟩ hi
    obtain ⟨hL, o, ho, haf⟩ := mem_ready.1 hi
    have hiN : i < 18 := (Array.getElem?_eq_some_iff.1 ho).1
    clear hi
    obtain ⟨⟨a0, a1, a2⟩, c0, c1, c2⟩ := And.intro (X3.below HXC.out.1.1 H.bel) (X3.below HXC.out.1.2 H.bel)
    have d0 := X3.below.box_old3 HXC.out.2.1 H.bel
    have d1 := X3.below.box_old3 HXC.out.2.2 H.bel
    have hcs : i = 0 ∨ i = 1 ∨ i = 2 ∨ i = 3 ∨ i = 4 ∨ i = 5 ∨ i = 6 ∨ i = 7 ∨ i = 8 ∨ i = 9 ∨ i = 10 ∨ i = 11 ∨ i = 12 ∨ i = 13 ∨ i = 14 ∨ i = 15 ∨ i = 16 ∨ i = 17 := by omega
    rcases hcs with rfl | rfl | rfl | rfl | rfl | rfl | rfl | rfl | rfl | rfl | rfl | rfl | rfl | rfl | rfl | rfl | rfl | rfl
    · cases ho
      refine wpOp_step rfl fun K' hK => ?_
      rw [if_pos (by rfl)]
      go_simp
      exact hK _ _ ⟨_, _, _, _, _, _, _, _, _, _, _, _, _, _, _, _, rfl, H.o0⟩
    · cases ho
      refine wpOp_step rfl fun K' hK => ?_
      rw [if_pos (by rfl)]
      go_simp
      exact hK _ _ ⟨_, _, _, _, _, _, _, _, _, _, _, _, _, _, _, _, rfl, H.o1⟩
    · cases ho
      have e1 := H.c1 (haf_of haf 1 (by kernel_rfl))
      subst e1
      refine wpOp_step rfl fun K' hK => ?_
      rw [if_pos (by rfl)]
      go_simp
      exact hK _ _ ⟨_, _, _, _, _, _, _, _, _, _, _, _, _, _, _, _, rfl, H.o2⟩
    · cases ho
      have e2 := H.c2 (haf_of haf 2 (by kernel_rfl))
      subst e2
      refine wpOp_step rfl fun K' hK => ?_
      rw [if_pos (by rfl)]
      go_simp
      exact hK _ _ ⟨_, _, _, _, _, _, _, _, _, _, _, _, _, _, _, _, rfl, H.o3⟩
    · cases ho
      have e0 := H.c0 (haf_of haf 0 (by kernel_rfl))
      subst e0
      have e3 := H.c3 (haf_of haf 3 (by kernel_rfl))
      subst e3
      refine wpOp_step rfl fun K' hK => ?_
      rw [if_pos (by rfl)]
      go_simp
      exact hK _ _ ⟨_, _, _, _, _, _, _, _, _, _, _, _, _, _, _, _, rfl, H.o4⟩
    · cases ho
      have e4 := H.c4 (haf_of haf 4 (by kernel_rfl))
      subst e4
      refine wpOp_step rfl fun K' hK => ?_
      rw [if_pos (by rfl)]
      go_simp
      exact hK _ _ ⟨_, _, _, _, _, _, _, _, _, _, _, _, _, _, _, _, rfl, H.o5⟩
    · cases ho
      have e5 := H.c5 (haf_of haf 5 (by kernel_rfl))
      subst e5
      refine wpOp_step rfl fun K' hK => ?_
      rw [if_pos (by rfl)]
      go_simp
      refine (HQ1.out _ _).mono ?_
      rintro e w1 ⟨rfl, hg⟩
      exact hK _ _ ⟨_, _, _, _, _, _, _, _, _, _, _, _, _, _, _, _, rfl, H.o6 hg.below⟩
    · cases ho
      refine wpOp_step rfl fun K' hK => ?_
      rw [if_pos (by rfl)]
      go_simp
      exact hK _ _ ⟨_, _, _, _, _, _, _, _, _, _, _, _, _, _, _, _, rfl, H.o7⟩
    · cases ho
      refine wpOp_step rfl fun K' hK => ?_
      rw [if_pos (by rfl)]
      go_simp
      exact hK _ _ ⟨_, _, _, _, _, _, _, _, _, _, _, _, _, _, _, _, rfl, H.o8⟩
    · cases ho
      have e8 := H.c8 (haf_of haf 8 (by kernel_rfl))
      subst e8
      refine wpOp_step rfl fun K' hK => ?_
      rw [if_pos (by rfl)]
      go_simp
      exact hK _ _ ⟨_, _, _, _, _, _, _, _, _, _, _, _, _, _, _, _, rfl, H.o9⟩
    · cases ho
      have e9 := H.c9 (haf_of haf 9 (by kernel_rfl))
      subst e9
      refine wpOp_step rfl fun K' hK => ?_
      rw [if_pos (by rfl)]
      go_simp
      exact hK _ _ ⟨_, _, _, _, _, _, _, _, _, _, _, _, _, _, _, _, rfl, H.o10⟩
    · cases ho
      have e7 := H.c7 (haf_of haf 7 (by kernel_rfl))
      subst e7
      have e10 := H.c10 (haf_of haf 10 (by kernel_rfl))
      subst e10
      refine wpOp_step rfl fun K' hK => ?_
      rw [if_pos (by rfl)]
      go_simp
      exact hK _ _ ⟨_, _, _, _, _, _, _, _, _, _, _, _, _, _, _, _, rfl, H.o11⟩
    · cases ho
      have e11 := H.c11 (haf_of haf 11 (by kernel_rfl))
      subst e11
      refine wpOp_step rfl fun K' hK => ?_
      rw [if_pos (by rfl)]
      go_simp
      exact hK _ _ ⟨_, _, _, _, _, _, _, _, _, _, _, _, _, _, _, _, rfl, H.o12⟩
    · cases ho
      have e12 := H.c12 (haf_of haf 12 (by kernel_rfl))
      subst e12
      refine wpOp_step rfl fun K' hK => ?_
      rw [if_pos (by rfl)]
      go_simp
      refine (HQ1.out _ _).mono ?_
      rintro e w1 ⟨rfl, hg⟩
      exact hK _ _ ⟨_, _, _, _, _, _, _, _, _, _, _, _, _, _, _, _, rfl, H.o13 hg.below⟩
    · refine wpOp_step rfl fun K' hK => ?_
      rw [if_pos (by rfl)]
      go_simp
      exact hK _ _ ⟨_, _, _, _, _, _, _, _, _, _, _, _, _, _, _, _, rfl, H.o14 hL⟩
    · refine wpOp_step rfl fun K' hK => ?_
      rw [if_pos (by rfl)]
      go_simp
      exact hK _ _ ⟨_, _, _, _, _, _, _, _, _, _, _, _, _, _, _, _, rfl, H.o15 hL⟩
    · cases ho
      have l14 : L.getD 14 false = true := (haf_of haf 14 (by kernel_rfl))
      have l15 : L.getD 15 false = true := (haf_of haf 15 (by kernel_rfl))
      have e0 := H.c6 (haf_of haf 6 (by kernel_rfl))
      obtain ⟨p, hb⟩ := H.b14 l14
      obtain ⟨g, hs, hge, -⟩ := id hb
      subst e0
      subst hs
      obtain ⟨⟨k0, k1⟩, f0, f1⟩ := hb.cells
      refine wpOp_step rfl fun K' hK => ?_
      rw [if_pos (by rfl)]
      go_simp
      exact hK _ _ ⟨_, _, _, _, _, _, _, _, _, _, _, _, _, _, _, _, rfl, H.o16 l14 l15 rfl hb hge⟩
    · cases ho
      have l14 : L.getD 14 false = true := (haf_of haf 14 (by kernel_rfl))
      have l15 : L.getD 15 false = true := (haf_of haf 15 (by kernel_rfl))
      have e0 := H.c13 (haf_of haf 13 (by kernel_rfl))
      obtain ⟨p, hb⟩ := H.b15 l15
      obtain ⟨g, hs, hge, -⟩ := id hb
      subst e0
      subst hs
      obtain ⟨⟨k0, k1⟩, f0, f1⟩ := hb.cells
      refine wpOp_step rfl fun K' hK => ?_
      rw [if_pos (by rfl)]
      go_simp
      exact hK _ _ ⟨_, _, _, _, _, _, _, _, _, _, _, _, _, _, _, _, rfl, H.o17 l14 l15 rfl hb hge⟩
  · rintro L a' w' ⟨s7, s8, s14, s15, s16, s17, s18, s19, s20, s21, s22, s23, s24, s25, s26, s27, rfl, H⟩ hr
    have hall := ready_nil H.z (by kernel_rfl) hr
    have h16 := H.e16 (hall 16 (by decide))
    have h17 := H.e17 (hall 17 (by decide))
    have hB := Lib.hid H.bel
    obtain ⟨g7, hs7, hge7, -⟩ := id h16
    obtain ⟨g8, hs8, hge8, -⟩ := id h17
    subst hs7 hs8
    obtain ⟨⟨k0, k1⟩, -⟩ := h16.cells
    obtain ⟨⟨m0, m1⟩, -⟩ := h17.cells
    rw [← HPD.out.1] at k0 k1
    rw [← HPD.out.2] at m0 m1
    have HK := Lib.hid (show P2 w' g7 p from ⟨k0, k1⟩)
    have hb6 := wt_bd HP6.out.1 HP6.out.2 HNE.out
    obtain ⟨⟨⟨p1, p2⟩, p3, p4⟩, ⟨q1, q2⟩, q3, q4⟩ := HP6.out
    have r1 : IntKind.i64.wrap (p.2 - q.2) = p.2 - q.2 := IntWalk.i64_in _ (by omega)
    have r2 : IntKind.i64.wrap (q.1 - p.1) = q.1 - p.1 := IntWalk.i64_in _ (by omega)
    clear H hall hr h16 h17
    go_wp2
    go_quiet (fail)
    have HB7 := Lib.hid (belN hB.out nq)
    have HK7 := Lib.hid (P2.below HK.out (belN (Below.refl _ _) nq))
    clear k0 k1 m0 m1 HK
    generalize w'.drewN nq = w3 at HB7 HK7 ⊢
    go_wp2_with fail
    refine (frGcd_any _ _ _ (by unfold wide; omega) (by unfold wide; omega)).mono ?_
    rintro e w4 ⟨rfl, rfl⟩
    rw [wt_back]
    obtain ⟨W, hW⟩ : ∃ W, W = wtP p q := ⟨_, rfl⟩
    obtain ⟨dx, hdx⟩ : ∃ dx, dx = dxP p q := ⟨_, rfl⟩
    obtain ⟨dy, hdy⟩ : ∃ dy, dy = dyP p q := ⟨_, rfl⟩
    have e1 : (p.2 - q.2).tdiv W = dx := by rw [hdx, hW]; rfl
    have e2 : (q.1 - p.1).tdiv W = dy := by rw [hdy, hW]; rfl
    rw [← hW] at hb6 ⊢
    rw [← hdx, ← hdy] at hb6
    obtain ⟨⟨b1, b2⟩, ⟨b3, b4⟩, b5, b6⟩ := hb6
    have HSG := Lib.hid (fun r => show (r.1 - p.1) * dx + (r.2 - p.2) * dy < 0 ↔ trn p q r < 0 by rw [hdx, hdy]; exact wt_sign HNE.out r)
    have HET := Lib.hid (show (rgB l x i k = true → enT l x i k = [-dx, -dy, W]) ∧ (rgB l x i k = false → enT l x i k = [dx, dy, W]) from
      ⟨fun h => by rw [enT_yes h, ← HPD.out.1, ← HPD.out.2, hW, hdx, hdy], fun h => by rw [enT_no h, ← HPD.out.1, ← HPD.out.2, hW, hdx, hdy]⟩)
    have wz : (W == 0) = false := by simp; omega
    have wz' : ¬ W = 0 := by omega
    have x1 : IntKind.i64.wrap dx = dx := IntWalk.i64_in _ (by omega)
    have x2 : IntKind.i64.wrap dy = dy := IntWalk.i64_in _ (by omega)
    have x3 : IntKind.i64.wrap (-dx) = -dx := IntWalk.i64_in _ (by omega)
    have x4 : IntKind.i64.wrap (-dy) = -dy := IntWalk.i64_in _ (by omega)
    clear hW hdx hdy r1 r2
    go_wp2_with fail
    refine (cePolygon_any w3 B B' _ _ l x (by rw [HN.out]; exact FS.below H0.out HB7.out) (HC0.out.below HB7.out) HL.out (ceL_bd HX.out).1 (Nat.le_trans (ceL_bd HX.out).2.2 (plB_le HL.out).2)).mono ?_
    rintro e w5 ⟨r5, rfl, hr5, b5'⟩
    rw [show hulL (cptL l x) = hcL l x from rfl] at hr5
    have hn12 := hc_le HX.out (plB_le HL.out).2
    have HHM := Lib.hid (fun r (hr : r ∈ hcL l x) => show In6 r by
      obtain ⟨m, -, hml, rfl⟩ := hc_mem HX.out hr
      exact in6_of (plB_at HL.out hml))
    rw [← HPD.out.1, ← HPD.out.2] at HRG
    obtain ⟨Hc, hHc⟩ : ∃ Hc, Hc = hcL l x := ⟨_, rfl⟩
    rw [← hHc] at hr5 hn12 HHM HRG
    have HB5 := Lib.hid (bel2 HB7.out b5')
    have HK5 := Lib.hid (P2.below HK7.out b5')
    obtain ⟨AH, capH, rfl, -, hpH⟩ := PtS.parts hr5
    have HPH := Lib.hid hpH
    obtain ⟨nh, hnh⟩ : ∃ nh, nh = Hc.length := ⟨_, rfl⟩
    have HNH := Lib.hid hnh
    rw [← hnh] at hn12 ⊢
    clear hr5 hpH hHc hnh b5' HB7 HK7 e1 e2
    go_wp2
    go_loopw [51] (fun i wr => ∃ j : Nat, j ≤ nh ∧ i = .int .i64 j ∧ Hid (∀ m, m < j → ¬ trn p q (pd Hc m) < 0) ∧ Below w5.heap.size w5 wr) (fun i _ => nh - (intOf i).toNat)
    case atStart => exact ⟨0, by omega, rfl, Lib.hid (fun m hm => absurd hm (Nat.not_lt_zero m)), Below.refl _ _⟩
    case round =>
      obtain ⟨j, hj, rfl, hno, hb⟩ := hrel
      by_cases hlt : j < nh
      · have hjH : j < Hc.length := by rw [← HNH.out]; exact hlt
        obtain ⟨gH, rfl, hc0⟩ := HPH.out j hjH
        obtain ⟨c0, c1⟩ := X2.below hc0 hb
        obtain ⟨y0, y1⟩ := P2.below HK5.out hb
        have hr6 := HHM.out _ (pd_mem hjH)
        obtain ⟨r, hr⟩ : ∃ r, r = pd Hc j := ⟨_, rfl⟩
        have HR := Lib.hid hr
        rw [← hr] at c0 c1 hr6
        obtain ⟨⟨r1, r2⟩, r3, r4⟩ := hr6
        have lg : g7 < wr.heap.size := cell_lt y0
        have lgH : gH < wr.heap.size := cell_lt c0
        have hbA := hb.alloc hb.size (.cells #[.int .i64 r.1, .int .i64 r.2] 64)
        have M1 := mulB2 (x := r.1 - p.1) (y := dx) (A := 6) (B := 6) (by omega) (by omega)
        have M2 := mulB2 (x := r.2 - p.2) (y := dy) (A := 6) (B := 6) (by omega) (by omega)
        have t1 : IntKind.i64.wrap (r.1 - p.1) = r.1 - p.1 := IntWalk.i64_in _ (by omega)
        have t2 : IntKind.i64.wrap (r.2 - p.2) = r.2 - p.2 := IntWalk.i64_in _ (by omega)
        have t3 : IntKind.i64.wrap ((r.1 - p.1) * dx) = (r.1 - p.1) * dx := IntWalk.i64_in _ (by omega)
        have t4 : IntKind.i64.wrap ((r.2 - p.2) * dy) = (r.2 - p.2) * dy := IntWalk.i64_in _ (by omega)
        have t5 : IntKind.i64.wrap ((r.1 - p.1) * dx + (r.2 - p.2) * dy) = (r.1 - p.1) * dx + (r.2 - p.2) * dy := IntWalk.i64_in _ (by omega)
        have hsg := HSG.out r
        have HBA := Lib.hid hbA
        clear hc0 hb hr hbA M1 M2
        by_cases hneg : (r.1 - p.1) * dx + (r.2 - p.2) * dy < 0
        · have HT := Lib.hid (HET.out.1 (by rw [HRG.out]; exact decide_eq_true ⟨_, pd_mem hjH, by rw [← HR.out]; exact hsg.1 hneg⟩))
          clear hsg
          go_wp2
          go_ret
          refine ⟨_, rfl, ?_, belA1 (bel2 HB5.out HBA.out) _⟩
          rw [HT.out]
          exact (IS3.new' _ _ _ _ _).base (by have := (bel2 HB5.out HBA.out).size; simp only [World.size_alloc] at this; omega)
        · have HNO := Lib.hid (show ∀ m, m < j + 1 → ¬ trn p q (pd Hc m) < 0 from fun m hm => by
            rcases Nat.lt_succ_iff_lt_or_eq.1 hm with h | rfl
            · exact hno.out m h
            · rw [← HR.out]; exact fun h => hneg (hsg.2 h))
          clear hsg hno
          go_wp2
          go_roundw
          case rel => exact ⟨j + 1, by omega, by go_num, HNO, HBA.out⟩
          case measure => simp [intOf]; omega
      · obtain rfl : j = nh := by omega
        have HT := Lib.hid (HET.out.2 (by rw [HRG.out]; exact decide_eq_false (fun ⟨r, hr, h⟩ => by
          obtain ⟨m, hm, rfl⟩ := List.getElem_of_mem hr
          exact hno.out m (by rw [HNH.out]; exact hm) (by rw [pd_eq Hc m hm]; exact h))))
        go_wp2
        go_ret
        refine ⟨_, rfl, ?_, belA1 (bel2 HB5.out hb) _⟩
        rw [HT.out]
        exact (IS3.new _ _ _ _).base (bel2 HB5.out hb).size
end Go.Proofs.YtcfplfjllnojoaaGreat
/-
  The program's end of a side: what endOfSide returns.
  Condition: the slices read as what is named; the terms are valid, the cell is one.
-/
namespace Go.Proofs.YtcfplfjllnojoaaGreat
set_option linter.unusedSimpArgs false
set_option linter.unusedVariables false
open Go.ChangeShapes Go.WideShapes Go.ChangeAt Go.RowKit Go.Maps
open Go.Sort (grow)

/-- An end as a value. -/
abbrev enV (i k : Nat) (t : List Int) : Value := .agg #[.int .i64 (i : Int), .int .i64 (k : Int), .int .i64 (gd t 0), .int .i64 (gd t 1), .int .i64 (gd t 2)]
theorem crP_trn (p q r : Pt) : crP (dfP p q) (dfP p r) = trn p q r := by unfold crP dfP trn; dsimp only
theorem box5_o {w w' : World} {g : Nat} {a b : Int} (h : w.cell? ⟨g, 0, none⟩ = some (.int .i64 a) ∧ w.cell? ⟨g, 1, none⟩ = some (.int .i64 b)) (hb : Below w.heap.size w w') : w'.cell? ⟨g, 0, none⟩ = some (.int .i64 a) ∧ w'.cell? ⟨g, 1, none⟩ = some (.int .i64 b) := ⟨box_o h.1 hb, box_o h.2 hb⟩
/-- The boxes at the start. -/
def EsB (w : World) (N : Nat) (v : Value) (i k : Nat) : Prop := w.cell? ⟨N, 0, none⟩ = some v ∧ (w.cell? ⟨N + 1, 0, none⟩ = some (.int .i64 (i : Int)) ∧ w.cell? ⟨N + 1, 1, none⟩ = some (.int .i64 (k : Int))) ∧ w.heap[N + 1 + 1]? = some (.cells #[.int .i64 0, .int .i64 0, .int .i64 0, .int .i64 0, .int .i64 0] 50 (0, 0))
abbrev oS (v : Value) : Obj := .cells #[v] 27
abbrev oP (i k : Nat) : Obj := .cells #[.int .i64 (i : Int), .int .i64 (k : Int)] 51
abbrev oE : Obj := .cells #[.int .i64 0, .int .i64 0, .int .i64 0, .int .i64 0, .int .i64 0] 50
theorem EsB.new (w : World) (v : Value) (i k : Nat) : EsB (((w.alloc (oS v)).alloc (oP i k)).alloc oE) w.heap.size v i k ∧ Below w.heap.size w (((w.alloc (oS v)).alloc (oP i k)).alloc oE) := by
  have bA : ∀ (W : World) (o : Obj), Below W.heap.size W (W.alloc o) := fun W o => (Below.refl _ _).alloc (Nat.le_refl _) o
  have h0 := belA1 (belA1 (belA1 (Below.refl w.heap.size w) (oS v)) (oP i k)) oE
  have h1 : (w.alloc (oS v)).cell? ⟨w.heap.size, 0, none⟩ = some v := by simp [go_sem]
  generalize hw1 : w.alloc (oS v) = w1 at h0 h1 ⊢
  have s1 : w1.heap.size = w.heap.size + 1 := by rw [← hw1]; simp
  have h2 : w1.heap.size < (w1.alloc (oP i k)).heap.size := by simp
  have h2a : (w1.alloc (oP i k)).cell? ⟨w1.heap.size, 0, none⟩ = some (.int .i64 (i : Int)) ∧ (w1.alloc (oP i k)).cell? ⟨w1.heap.size, 1, none⟩ = some (.int .i64 (k : Int)) := by constructor <;> simp [go_sem]
  have h1' := box_o h1 (bA w1 (oP i k))
  generalize hw2 : w1.alloc (oP i k) = w2 at h0 h2 h2a h1' ⊢
  have s2 : w2.heap.size = w.heap.size + 1 + 1 := by rw [← hw2]; simp [s1]
  have h3 := heap_alloc_new w2 oE
  rw [s2] at h3
  rw [s1] at h2a
  exact ⟨⟨box_o h1' (bA w2 _), box5_o h2a (bA w2 _), h3⟩, h0⟩
theorem EsB.below {w w' : World} {N : Nat} {v : Value} {i k : Nat} (h : EsB w N v i k) (hb : Below w.heap.size w w') : EsB w' N v i k :=
  ⟨box_o h.1 hb, box5_o h.2.1 hb, (hb.block _ (Array.getElem?_eq_some_iff.1 h.2.2).1).trans h.2.2⟩
/-- Five integers in a block. -/
def E5 (w : World) (g : Nat) (a b c d e : Int) : Prop := w.heap[g]? = some (.cells #[.int .i64 a, .int .i64 b, .int .i64 c, .int .i64 d, .int .i64 e] 50 (0, 0))
theorem E5.cells {w : World} {g : Nat} {a b c d e : Int} (h : E5 w g a b c d e) : (w.cell? ⟨g, 0, none⟩ = some (.int .i64 a) ∧ w.cell? ⟨g, 1, none⟩ = some (.int .i64 b) ∧ w.cell? ⟨g, 2, none⟩ = some (.int .i64 c) ∧ w.cell? ⟨g, 3, none⟩ = some (.int .i64 d) ∧ w.cell? ⟨g, 4, none⟩ = some (.int .i64 e)) ∧
    (w.frozen? ⟨g, 0, none⟩ = false ∧ w.frozen? ⟨g, 1, none⟩ = false ∧ w.frozen? ⟨g, 2, none⟩ = false ∧ w.frozen? ⟨g, 3, none⟩ = false ∧ w.frozen? ⟨g, 4, none⟩ = false) := by
  unfold E5 at h
  refine ⟨⟨?_, ?_, ?_, ?_, ?_⟩, ?_, ?_, ?_, ?_, ?_⟩ <;> simp [World.cell?, World.frozen?, h]
theorem E5.below {w w' : World} {g : Nat} {a b c d e : Int} (h : E5 w g a b c d e) (hb : Below w.heap.size w w') : E5 w' g a b c d e := (hb.block g (Array.getElem?_eq_some_iff.1 h).1).trans h
theorem E5.new (w : World) (a b c d e : Int) : E5 (w.alloc (.cells #[.int .i64 a, .int .i64 b, .int .i64 c, .int .i64 d, .int .i64 e] 50)) w.heap.size a b c d e := heap_alloc_new w _
theorem E5.put {w : World} {g : Nat} {a b c d e : Int} (h : E5 w g a b c d e) (a' b' c' d' e' : Int) : E5 (((((w.setCell ⟨g, 0, none⟩ (.int .i64 a')).setCell ⟨g, 1, none⟩ (.int .i64 b')).setCell ⟨g, 2, none⟩ (.int .i64 c')).setCell ⟨g, 3, none⟩ (.int .i64 d')).setCell ⟨g, 4, none⟩ (.int .i64 e')) g a' b' c' d' e' :=
  heap_set_at _ (heap_set_at _ (heap_set_at _ (heap_set_at _ (heap_set_at _ h))))
theorem E5.load {w : World} {g : Nat} {a b c d e : Int} (h : E5 w g a b c d e) : (loadVar 50 ⟨g, 0, none⟩).run Tryz.prog w = .ok (.agg #[.int .i64 a, .int .i64 b, .int .i64 c, .int .i64 d, .int .i64 e]) w := by
  obtain ⟨⟨h1, h2, h3, h4, h5⟩, -⟩ := h.cells
  simp [loadVar, go_sem, h1, h2, h3, h4, h5]
theorem E5.result {w : World} {g : Nat} {a b c d e : Int} (h : E5 w g a b c d e) {fn : Func} {p : Tmp} {ts : Array Value} (hr : fn.results = #[.cell p 50]) (hp : ts.getD p undef = .pointer (some ⟨g, 0, none⟩)) : (Go.results fn ts).run Tryz.prog w = Result.ok (.agg #[.int .i64 a, .int .i64 b, .int .i64 c, .int .i64 d, .int .i64 e]) w := by
  have hp' : ts[p]?.getD undef = .pointer (some ⟨g, 0, none⟩) := by simpa using hp
  have ha : (asAddr (Value.pointer (some ⟨g, 0, none⟩))).run Tryz.prog w = .ok ⟨g, 0, none⟩ w := rfl
  simp only [Go.results, hr]
  simp [Sem.run_bind, Result.andThen, hp', ha, h.load]
theorem belS5 {x w : World} (h : Below x.heap.size x w) {g : Nat} (hg : x.heap.size ≤ g) (a b c d e : Value) : Below x.heap.size x (((((w.setCell ⟨g, 0, none⟩ a).setCell ⟨g, 1, none⟩ b).setCell ⟨g, 2, none⟩ c).setCell ⟨g, 3, none⟩ d).setCell ⟨g, 4, none⟩ e) :=
  belS (belS (belS (belS (belS h hg _ _) hg _ _) hg _ _) hg _ _) hg _ _
/-- The function value tells f of each number of a list, whatever was made since. -/
def PrAt (g : Nat) (lb : Array Value) (x : List Int) (f : Int → Bool) (w : World) : Prop := ∀ (W : World) (n : Int), n ∈ x → Below w.heap.size w W → Calls Tryz.prog g (#[.int .i64 n] ++ lb) W fun e w' => e = .returned (.bool (f n)) ∧ Below W.heap.size W w'
abbrev EntC (g : Nat) : Prop := ∀ (args : Array Value) (w : World), (callFunc g args).run Tryz.prog w = .ok (.enter g args) w
set_option maxHeartbeats 1000000 in
theorem indexI_any (w : World) (B : Nat) (v : Value) (zs : List Int) (h : IS w B v zs) (g : Nat) (lb : Array Value) (eg : EntC g) (f : Int → Bool) (hp : PrAt g lb zs f w) : Calls Tryz.prog 97 #[v, .func (.func g) #[] lb] w fun e w' => (∃ n : Int, e = .returned (.int .i64 n) ∧ (0 ≤ n ↔ ∃ m ∈ zs, f m = true)) ∧ Below w.heap.size w w' := by
  have HF := Lib.hid hp
  obtain ⟨A, cap, rfl, hm, hq⟩ := h.parts
  have HP := Lib.hid hq
  obtain ⟨n, hn⟩ : ∃ n, n = zs.length := ⟨_, rfl⟩
  have HN := Lib.hid hn
  rw [← hn] at hm ⊢
  unfold maxLen at hm
  clear h hq hn hp
  go_enter Tryz.func97, Tryz.ntmps97
  go_wp2
  go_loopw [8] (fun i wr => ∃ k : Nat, k ≤ n ∧ i = .int .i64 k ∧ Hid (∀ m, m < k → f (gd zs m) = false) ∧ Below w.heap.size w wr) (fun i _ => n - (intOf i).toNat)
  case atStart => exact ⟨0, by omega, rfl, Lib.hid (fun m hm => absurd hm (Nat.not_lt_zero m)), Below.refl _ _⟩
  case round =>
    obtain ⟨k, hk, rfl, hall, hb⟩ := hrel
    by_cases hlt : k < n
    · have hkz : k < zs.length := by rw [← HN.out]; exact hlt
      obtain ⟨ga, rfl, hc0⟩ := HP.out k hkz
      have hc := X3.below.box_old3 hc0 hb
      have lga : ga < wr.heap.size := cell_lt hc
      have cS := HF.out wr (gd zs k) (gd_mem hkz) hb
      have HMZ := Lib.hid (gd_mem hkz)
      obtain ⟨z, hz⟩ : ∃ z, z = gd zs k := ⟨_, rfl⟩
      have HZ := Lib.hid hz
      rw [← hz] at hc cS
      clear hc0 hz
      cases h3 : f z
      · rw [h3] at cS
        have HA := Lib.hid (show ∀ m, m < k + 1 → f (gd zs m) = false from fun m hm => by
          rcases Nat.lt_succ_iff_lt_or_eq.1 hm with h | rfl
          · exact hall.out m h
          · rw [← HZ.out]; exact h3)
        go_wp2_with (first | (go_at_fn g; refine cS.mono ?_; rintro e w' ⟨rfl, hb2⟩))
        go_roundw
        case rel => exact ⟨k + 1, by omega, by go_num, HA, bel2 hb hb2⟩
        case measure => simp [intOf]; omega
      · rw [h3] at cS
        have HT := Lib.hid (show ∃ m ∈ zs, f m = true from ⟨_, HMZ.out, by rw [← HZ.out]; exact h3⟩)
        go_wp2_with (first | (go_at_fn g; refine cS.mono ?_; rintro e w' ⟨rfl, hb2⟩))
        go_ret
        exact ⟨⟨_, rfl, fun _ => HT.out, fun _ => by omega⟩, bel2 hb hb2⟩
    · obtain rfl : k = n := by omega
      go_wp2
      go_ret
      exact ⟨⟨_, rfl, fun h => by omega, fun ⟨m, h1, h2⟩ => by
        obtain ⟨j, hj, rfl⟩ := List.getElem_of_mem h1
        have := hall.out j (by rw [HN.out]; exact hj)
        rw [gd_eq zs j hj, h2] at this
        cases this⟩, hb⟩
theorem containsI_any (w : World) (B : Nat) (v : Value) (zs : List Int) (h : IS w B v zs) (g : Nat) (lb : Array Value) (eg : EntC g) (f : Int → Bool) (hp : PrAt g lb zs f w) : Calls Tryz.prog 74 #[v, .func (.func g) #[] lb] w fun e w' => e = .returned (.bool (decide (∃ m ∈ zs, f m = true))) ∧ Below w.heap.size w w' := by
  go_enter Tryz.func74, Tryz.ntmps74
  go_wp2_with fail
  refine (indexI_any _ B _ zs h g lb eg f hp).mono ?_
  rintro e w' ⟨⟨n, rfl, hn⟩, hb⟩
  have HN := Lib.hid hn
  clear hn
  go_wp2
  go_ret
  exact ⟨ret_bool (by rw [decide_eq_decide]; exact HN.out), hb⟩
theorem ent_right : EntC 71 := enters_of Tryz.func71 (by kernel_rfl) rfl
set_option maxHeartbeats 1000000 in
set_option maxRecDepth 100000 in
theorem isAtRight_any (W : World) (l : List Tm) (gt n nt m g8 g7 g3 : Nat) (p q : Pt) (hn : n = l.length) (hm : m < l.length) (hl : plB l = true) (hp : In6 p) (hq : In6 q) (h8 : P2 W g8 (dfP p q)) (h7 : P2 W g7 p) (h3 : W.cell? ⟨g3, 0, none⟩ = some (.slice (some ⟨gt, 0, none⟩) n nt)) (ht : X3 W gt (m * 3) (td l m)) :
    Calls Tryz.prog 71 #[.int .i64 (m : Int), .pointer (some ⟨g8, 0, none⟩), .pointer (some ⟨g7, 0, none⟩), .pointer (some ⟨g3, 0, none⟩)] W fun e w' => e = .returned (.bool (decide (trn p q (ptO (td l m)) < 0))) ∧ Below W.heap.size W w' := by
  have hr := in6_of (plB_at hl hm)
  have H1 := Lib.hid (fun W => show Calls Tryz.prog 68 #[tmV (td l m)] W fun e w' => e = .returned (ptV (ptO (td l m))) ∧ Gr W w' from pointOf_any (td l m) W)
  obtain ⟨r, hre⟩ : ∃ r, r = ptO (td l m) := ⟨_, rfl⟩
  rw [← hre] at hr H1
  have sm : ∀ {a : Pt}, In6 a → Sm 1000 a := fun {a} h => by unfold In6 at h; unfold Sm; omega
  have H2 := Lib.hid (fun W => stepTo_any p r W (sm hp) (sm hr))
  have H3 := Lib.hid (fun W => show Calls Tryz.prog 72 #[ptV (dfP p q), ptV (dfP p r)] W fun e w' => e = .returned (.int .i64 (trn p q r)) ∧ Gr W w' by
    rw [← crP_trn]
    exact cross_any (dfP p q) (dfP p r) W (Sm.df (sm hp) (sm hq)) (Sm.df (sm hp) (sm hr)))
  have HB := Lib.hid (show trn p q (ptO (td l m)) = trn p q r by rw [hre])
  rw [HB.out]
  obtain ⟨T, hT⟩ : ∃ T, T = trn p q r := ⟨_, rfl⟩
  rw [← hT] at H3 ⊢
  obtain ⟨x0, x1, x2⟩ := X3.grown ht
  obtain ⟨y0, y1⟩ := P2.grown h8
  obtain ⟨z0, z1⟩ := P2.grown h7
  have u0 := cell_grown (cell_lt h3) h3
  have l1 : (m : Int) < (n : Int) := by omega
  have l2 : m < n := by omega
  clear h8 h7 h3 ht hp hq hr hre hm hl hn hT sm
  go_enter Tryz.func71, Tryz.ntmps71
  go_wp2
  refine wp_region_quiet_grown (by kernel_rfl) (by kernel_rfl) ?_
  repeat (go_big_quiet_step ((first | (go_at_call 68; refine Calls.grown_of (H1.out _)) | (go_at_call 70; refine Calls.grown_of (H2.out _)) | (go_at_call 72; refine Calls.grown_of (H3.out _)))))
  refine wpQuiet_nil ?_
  intro _ hw'
  obtain ⟨⟨nq, osq⟩, hw''⟩ := hw'
  subst hw''
  go_wp2
  go_ret
  exact ⟨rfl, grB _ _⟩
abbrev actEf (q0 q1 q2 q3 q4 q5 q6 q7 q9 q10 q11 q12 q13 q14 q15 q16 q17 q18 q27 q28 q29 q30 q31 q32 q33 q34 q35 q36 q37 q38 q39 q40 q41 q42 q43 q44 q45 q46 q47 q48 q49 q50 q51 q52 q53 q54 q55 q56 : Value) (s8 s19 s20 s21 s22 s23 s24 s25 s26 : Value) : Act := { tmps := #[q0, q1, q2, q3, q4, q5, q6, q7, s8, q9, q10, q11, q12, q13, q14, q15, q16, q17, q18, s19, s20, s21, s22, s23, s24, s25, s26, q27, q28, q29, q30, q31, q32, q33, q34, q35, q36, q37, q38, q39, q40, q41, q42, q43, q44, q45, q46, q47, q48, q49, q50, q51, q52, q53, q54, q55, q56], defers := [] }
/-- What is known when some operations are done. -/
structure IvEf (x : World) (l : List Tm) (gt n nt N i k : Nat) (L : Array Bool) (s8 s19 s20 s21 s22 s23 s24 s25 s26 : Value) (w : World) : Prop where
  z : L.size = 10
  bel : Below x.heap.size x w
  c0 : (L.getD 0 false = true) → s19 = ptV (ptO (td l i))
  c1 : (L.getD 1 false = true) → s20 = .slice (some ⟨gt, 0, none⟩) n nt
  c2 : (L.getD 2 false = true) → s21 = .pointer (some ⟨N + 1, 1, none⟩)
  c3 : (L.getD 3 false = true) → s22 = .int .i64 (k : Int)
  c4 : (L.getD 4 false = true) → s23 = .pointer (some ⟨gt, k * 3, none⟩)
  c5 : (L.getD 5 false = true) → s24 = tmV (td l k)
  c6 : (L.getD 6 false = true) → s25 = ptV (ptO (td l k))
  c7 : (L.getD 7 false = true) → s26 = ptV (dfP (ptO (td l i)) (ptO (td l k)))
  b8 : (L.getD 8 false = true) → ∃ p, Bw x.heap.size w s8 p
  f9 : (L.getD 9 false = true) → (L.getD 8 false = true)
  e9 : (L.getD 9 false = true) → Bw x.heap.size w s8 (dfP (ptO (td l i)) (ptO (td l k)))
theorem IvEf.start (x : World) (l : List Tm) (gt n nt N i k : Nat) (s8 s19 s20 s21 s22 s23 s24 s25 s26 : Value) : IvEf x l gt n nt N i k (Array.replicate 10 false) s8 s19 s20 s21 s22 s23 s24 s25 s26 x.drew where
  z := rfl
  bel := belD (Below.refl _ _)
  c0 := fun h => by simp at h
  c1 := fun h => by simp at h
  c2 := fun h => by simp at h
  c3 := fun h => by simp at h
  c4 := fun h => by simp at h
  c5 := fun h => by simp at h
  c6 := fun h => by simp at h
  c7 := fun h => by simp at h
  b8 := fun h => by simp at h
  f9 := fun h => by simp at h
  e9 := fun h => by simp at h
theorem IvEf.o0 {x : World} {l : List Tm} {gt n nt N i k : Nat} {L : Array Bool} {s8 s19 s20 s21 s22 s23 s24 s25 s26 : Value} {w : World} (H : IvEf x l gt n nt N i k L s8 s19 s20 s21 s22 s23 s24 s25 s26 w)  : IvEf x l gt n nt N i k (L.setIfInBounds 0 true) s8 (ptV (ptO (td l i))) s20 s21 s22 s23 s24 s25 s26 w where
  z := by rw [Array.size_setIfInBounds]; exact H.z
  bel := H.bel
  c0 := fun _ => rfl
  c1 := fun h => H.c1 (by rwa [getD_set_ne _ (by decide)] at h)
  c2 := fun h => H.c2 (by rwa [getD_set_ne _ (by decide)] at h)
  c3 := fun h => H.c3 (by rwa [getD_set_ne _ (by decide)] at h)
  c4 := fun h => H.c4 (by rwa [getD_set_ne _ (by decide)] at h)
  c5 := fun h => H.c5 (by rwa [getD_set_ne _ (by decide)] at h)
  c6 := fun h => H.c6 (by rwa [getD_set_ne _ (by decide)] at h)
  c7 := fun h => H.c7 (by rwa [getD_set_ne _ (by decide)] at h)
  b8 := fun h => (H.b8 (by rwa [getD_set_ne _ (by decide)] at h))
  f9 := fun h => by rw [getD_set_ne _ (by decide)]; exact H.f9 (by rwa [getD_set_ne _ (by decide)] at h)
  e9 := fun h => (H.e9 (by rwa [getD_set_ne _ (by decide)] at h))
theorem IvEf.o1 {x : World} {l : List Tm} {gt n nt N i k : Nat} {L : Array Bool} {s8 s19 s20 s21 s22 s23 s24 s25 s26 : Value} {w : World} (H : IvEf x l gt n nt N i k L s8 s19 s20 s21 s22 s23 s24 s25 s26 w)  : IvEf x l gt n nt N i k (L.setIfInBounds 1 true) s8 s19 (.slice (some ⟨gt, 0, none⟩) n nt) s21 s22 s23 s24 s25 s26 w where
  z := by rw [Array.size_setIfInBounds]; exact H.z
  bel := H.bel
  c0 := fun h => H.c0 (by rwa [getD_set_ne _ (by decide)] at h)
  c1 := fun _ => rfl
  c2 := fun h => H.c2 (by rwa [getD_set_ne _ (by decide)] at h)
  c3 := fun h => H.c3 (by rwa [getD_set_ne _ (by decide)] at h)
  c4 := fun h => H.c4 (by rwa [getD_set_ne _ (by decide)] at h)
  c5 := fun h => H.c5 (by rwa [getD_set_ne _ (by decide)] at h)
  c6 := fun h => H.c6 (by rwa [getD_set_ne _ (by decide)] at h)
  c7 := fun h => H.c7 (by rwa [getD_set_ne _ (by decide)] at h)
  b8 := fun h => (H.b8 (by rwa [getD_set_ne _ (by decide)] at h))
  f9 := fun h => by rw [getD_set_ne _ (by decide)]; exact H.f9 (by rwa [getD_set_ne _ (by decide)] at h)
  e9 := fun h => (H.e9 (by rwa [getD_set_ne _ (by decide)] at h))
theorem IvEf.o2 {x : World} {l : List Tm} {gt n nt N i k : Nat} {L : Array Bool} {s8 s19 s20 s21 s22 s23 s24 s25 s26 : Value} {w : World} (H : IvEf x l gt n nt N i k L s8 s19 s20 s21 s22 s23 s24 s25 s26 w)  : IvEf x l gt n nt N i k (L.setIfInBounds 2 true) s8 s19 s20 (.pointer (some ⟨N + 1, 1, none⟩)) s22 s23 s24 s25 s26 w where
  z := by rw [Array.size_setIfInBounds]; exact H.z
  bel := H.bel
  c0 := fun h => H.c0 (by rwa [getD_set_ne _ (by decide)] at h)
  c1 := fun h => H.c1 (by rwa [getD_set_ne _ (by decide)] at h)
  c2 := fun _ => rfl
  c3 := fun h => H.c3 (by rwa [getD_set_ne _ (by decide)] at h)
  c4 := fun h => H.c4 (by rwa [getD_set_ne _ (by decide)] at h)
  c5 := fun h => H.c5 (by rwa [getD_set_ne _ (by decide)] at h)
  c6 := fun h => H.c6 (by rwa [getD_set_ne _ (by decide)] at h)
  c7 := fun h => H.c7 (by rwa [getD_set_ne _ (by decide)] at h)
  b8 := fun h => (H.b8 (by rwa [getD_set_ne _ (by decide)] at h))
  f9 := fun h => by rw [getD_set_ne _ (by decide)]; exact H.f9 (by rwa [getD_set_ne _ (by decide)] at h)
  e9 := fun h => (H.e9 (by rwa [getD_set_ne _ (by decide)] at h))
theorem IvEf.o3 {x : World} {l : List Tm} {gt n nt N i k : Nat} {L : Array Bool} {s8 s19 s20 s21 s22 s23 s24 s25 s26 : Value} {w : World} (H : IvEf x l gt n nt N i k L s8 s19 s20 s21 s22 s23 s24 s25 s26 w)  : IvEf x l gt n nt N i k (L.setIfInBounds 3 true) s8 s19 s20 s21 (.int .i64 (k : Int)) s23 s24 s25 s26 w where
  z := by rw [Array.size_setIfInBounds]; exact H.z
  bel := H.bel
  c0 := fun h => H.c0 (by rwa [getD_set_ne _ (by decide)] at h)
  c1 := fun h => H.c1 (by rwa [getD_set_ne _ (by decide)] at h)
  c2 := fun h => H.c2 (by rwa [getD_set_ne _ (by decide)] at h)
  c3 := fun _ => rfl
  c4 := fun h => H.c4 (by rwa [getD_set_ne _ (by decide)] at h)
  c5 := fun h => H.c5 (by rwa [getD_set_ne _ (by decide)] at h)
  c6 := fun h => H.c6 (by rwa [getD_set_ne _ (by decide)] at h)
  c7 := fun h => H.c7 (by rwa [getD_set_ne _ (by decide)] at h)
  b8 := fun h => (H.b8 (by rwa [getD_set_ne _ (by decide)] at h))
  f9 := fun h => by rw [getD_set_ne _ (by decide)]; exact H.f9 (by rwa [getD_set_ne _ (by decide)] at h)
  e9 := fun h => (H.e9 (by rwa [getD_set_ne _ (by decide)] at h))
theorem IvEf.o4 {x : World} {l : List Tm} {gt n nt N i k : Nat} {L : Array Bool} {s8 s19 s20 s21 s22 s23 s24 s25 s26 : Value} {w : World} (H : IvEf x l gt n nt N i k L s8 s19 s20 s21 s22 s23 s24 s25 s26 w)  : IvEf x l gt n nt N i k (L.setIfInBounds 4 true) s8 s19 s20 s21 s22 (.pointer (some ⟨gt, k * 3, none⟩)) s24 s25 s26 w where
  z := by rw [Array.size_setIfInBounds]; exact H.z
  bel := H.bel
  c0 := fun h => H.c0 (by rwa [getD_set_ne _ (by decide)] at h)
  c1 := fun h => H.c1 (by rwa [getD_set_ne _ (by decide)] at h)
  c2 := fun h => H.c2 (by rwa [getD_set_ne _ (by decide)] at h)
  c3 := fun h => H.c3 (by rwa [getD_set_ne _ (by decide)] at h)
  c4 := fun _ => rfl
  c5 := fun h => H.c5 (by rwa [getD_set_ne _ (by decide)] at h)
  c6 := fun h => H.c6 (by rwa [getD_set_ne _ (by decide)] at h)
  c7 := fun h => H.c7 (by rwa [getD_set_ne _ (by decide)] at h)
  b8 := fun h => (H.b8 (by rwa [getD_set_ne _ (by decide)] at h))
  f9 := fun h => by rw [getD_set_ne _ (by decide)]; exact H.f9 (by rwa [getD_set_ne _ (by decide)] at h)
  e9 := fun h => (H.e9 (by rwa [getD_set_ne _ (by decide)] at h))
theorem IvEf.o5 {x : World} {l : List Tm} {gt n nt N i k : Nat} {L : Array Bool} {s8 s19 s20 s21 s22 s23 s24 s25 s26 : Value} {w : World} (H : IvEf x l gt n nt N i k L s8 s19 s20 s21 s22 s23 s24 s25 s26 w)  : IvEf x l gt n nt N i k (L.setIfInBounds 5 true) s8 s19 s20 s21 s22 s23 (tmV (td l k)) s25 s26 w where
  z := by rw [Array.size_setIfInBounds]; exact H.z
  bel := H.bel
  c0 := fun h => H.c0 (by rwa [getD_set_ne _ (by decide)] at h)
  c1 := fun h => H.c1 (by rwa [getD_set_ne _ (by decide)] at h)
  c2 := fun h => H.c2 (by rwa [getD_set_ne _ (by decide)] at h)
  c3 := fun h => H.c3 (by rwa [getD_set_ne _ (by decide)] at h)
  c4 := fun h => H.c4 (by rwa [getD_set_ne _ (by decide)] at h)
  c5 := fun _ => rfl
  c6 := fun h => H.c6 (by rwa [getD_set_ne _ (by decide)] at h)
  c7 := fun h => H.c7 (by rwa [getD_set_ne _ (by decide)] at h)
  b8 := fun h => (H.b8 (by rwa [getD_set_ne _ (by decide)] at h))
  f9 := fun h => by rw [getD_set_ne _ (by decide)]; exact H.f9 (by rwa [getD_set_ne _ (by decide)] at h)
  e9 := fun h => (H.e9 (by rwa [getD_set_ne _ (by decide)] at h))
theorem IvEf.o6 {x : World} {l : List Tm} {gt n nt N i k : Nat} {L : Array Bool} {s8 s19 s20 s21 s22 s23 s24 s25 s26 : Value} {w : World} (H : IvEf x l gt n nt N i k L s8 s19 s20 s21 s22 s23 s24 s25 s26 w) {w' : World} (hg : Below w.heap.size w w') : IvEf x l gt n nt N i k (L.setIfInBounds 6 true) s8 s19 s20 s21 s22 s23 s24 (ptV (ptO (td l k))) s26 w' where
  z := by rw [Array.size_setIfInBounds]; exact H.z
  bel := bel2 H.bel hg
  c0 := fun h => H.c0 (by rwa [getD_set_ne _ (by decide)] at h)
  c1 := fun h => H.c1 (by rwa [getD_set_ne _ (by decide)] at h)
  c2 := fun h => H.c2 (by rwa [getD_set_ne _ (by decide)] at h)
  c3 := fun h => H.c3 (by rwa [getD_set_ne _ (by decide)] at h)
  c4 := fun h => H.c4 (by rwa [getD_set_ne _ (by decide)] at h)
  c5 := fun h => H.c5 (by rwa [getD_set_ne _ (by decide)] at h)
  c6 := fun _ => rfl
  c7 := fun h => H.c7 (by rwa [getD_set_ne _ (by decide)] at h)
  b8 := fun h => (H.b8 (by rwa [getD_set_ne _ (by decide)] at h)).imp fun _ k => k.gr hg
  f9 := fun h => by rw [getD_set_ne _ (by decide)]; exact H.f9 (by rwa [getD_set_ne _ (by decide)] at h)
  e9 := fun h => (H.e9 (by rwa [getD_set_ne _ (by decide)] at h)).gr hg
theorem IvEf.o7 {x : World} {l : List Tm} {gt n nt N i k : Nat} {L : Array Bool} {s8 s19 s20 s21 s22 s23 s24 s25 s26 : Value} {w : World} (H : IvEf x l gt n nt N i k L s8 s19 s20 s21 s22 s23 s24 s25 s26 w) {w' : World} (hg : Below w.heap.size w w') : IvEf x l gt n nt N i k (L.setIfInBounds 7 true) s8 s19 s20 s21 s22 s23 s24 s25 (ptV (dfP (ptO (td l i)) (ptO (td l k)))) w' where
  z := by rw [Array.size_setIfInBounds]; exact H.z
  bel := bel2 H.bel hg
  c0 := fun h => H.c0 (by rwa [getD_set_ne _ (by decide)] at h)
  c1 := fun h => H.c1 (by rwa [getD_set_ne _ (by decide)] at h)
  c2 := fun h => H.c2 (by rwa [getD_set_ne _ (by decide)] at h)
  c3 := fun h => H.c3 (by rwa [getD_set_ne _ (by decide)] at h)
  c4 := fun h => H.c4 (by rwa [getD_set_ne _ (by decide)] at h)
  c5 := fun h => H.c5 (by rwa [getD_set_ne _ (by decide)] at h)
  c6 := fun h => H.c6 (by rwa [getD_set_ne _ (by decide)] at h)
  c7 := fun _ => rfl
  b8 := fun h => (H.b8 (by rwa [getD_set_ne _ (by decide)] at h)).imp fun _ k => k.gr hg
  f9 := fun h => by rw [getD_set_ne _ (by decide)]; exact H.f9 (by rwa [getD_set_ne _ (by decide)] at h)
  e9 := fun h => (H.e9 (by rwa [getD_set_ne _ (by decide)] at h)).gr hg
theorem IvEf.o8 {x : World} {l : List Tm} {gt n nt N i k : Nat} {L : Array Bool} {s8 s19 s20 s21 s22 s23 s24 s25 s26 : Value} {w : World} (H : IvEf x l gt n nt N i k L s8 s19 s20 s21 s22 s23 s24 s25 s26 w) (hN : L.getD 8 true = false) : IvEf x l gt n nt N i k (L.setIfInBounds 8 true) (.pointer (some ⟨w.heap.size, 0, none⟩)) s19 s20 s21 s22 s23 s24 s25 s26 (w.alloc (.cells #[.int .i64 0, .int .i64 0] 64)) where
  z := by rw [Array.size_setIfInBounds]; exact H.z
  bel := belA1 H.bel _
  c0 := fun h => H.c0 (by rwa [getD_set_ne _ (by decide)] at h)
  c1 := fun h => H.c1 (by rwa [getD_set_ne _ (by decide)] at h)
  c2 := fun h => H.c2 (by rwa [getD_set_ne _ (by decide)] at h)
  c3 := fun h => H.c3 (by rwa [getD_set_ne _ (by decide)] at h)
  c4 := fun h => H.c4 (by rwa [getD_set_ne _ (by decide)] at h)
  c5 := fun h => H.c5 (by rwa [getD_set_ne _ (by decide)] at h)
  c6 := fun h => H.c6 (by rwa [getD_set_ne _ (by decide)] at h)
  c7 := fun h => H.c7 (by rwa [getD_set_ne _ (by decide)] at h)
  b8 := fun _ => ⟨_, Bw.new H.bel.size⟩
  f9 := fun _ => getD_set_same H.z (by decide)
  e9 := fun h => (notl hN (H.f9 (by rwa [getD_set_ne _ (by decide)] at h))).elim
theorem IvEf.o9 {x : World} {l : List Tm} {gt n nt N i k : Nat} {L : Array Bool} {s8 s19 s20 s21 s22 s23 s24 s25 s26 : Value} {w : World} (H : IvEf x l gt n nt N i k L s8 s19 s20 s21 s22 s23 s24 s25 s26 w) (l8 : L.getD 8 false = true) {g : Nat} (hs : s8 = .pointer (some ⟨g, 0, none⟩)) {p : _} (hb : Bw x.heap.size w s8 p) (hge : x.heap.size ≤ g) : IvEf x l gt n nt N i k (L.setIfInBounds 9 true) s8 s19 s20 s21 s22 s23 s24 s25 s26 ((w.setCell ⟨g, 0, none⟩ (.int .i64 (dfP (ptO (td l i)) (ptO (td l k))).1)).setCell ⟨g, 1, none⟩ (.int .i64 (dfP (ptO (td l i)) (ptO (td l k))).2)) where
  z := by rw [Array.size_setIfInBounds]; exact H.z
  bel := belS (belS (H.bel) hge _ _) hge _ _
  c0 := fun h => H.c0 (by rwa [getD_set_ne _ (by decide)] at h)
  c1 := fun h => H.c1 (by rwa [getD_set_ne _ (by decide)] at h)
  c2 := fun h => H.c2 (by rwa [getD_set_ne _ (by decide)] at h)
  c3 := fun h => H.c3 (by rwa [getD_set_ne _ (by decide)] at h)
  c4 := fun h => H.c4 (by rwa [getD_set_ne _ (by decide)] at h)
  c5 := fun h => H.c5 (by rwa [getD_set_ne _ (by decide)] at h)
  c6 := fun h => H.c6 (by rwa [getD_set_ne _ (by decide)] at h)
  c7 := fun h => H.c7 (by rwa [getD_set_ne _ (by decide)] at h)
  b8 := fun _ => ⟨_, by rw [hs]; exact Bw.put (hs ▸ hb) (dfP (ptO (td l i)) (ptO (td l k)))⟩
  f9 := fun _ => by rw [getD_set_ne _ (by decide)]; exact l8
  e9 := fun _ => by rw [hs]; exact Bw.put (hs ▸ hb) _

set_option maxHeartbeats 4000000 in
set_option maxRecDepth 100000 in
theorem endOfSide_any (w : World) (B B' : Nat) (v c : Value) (l : List Tm) (x : List Int) (i k : Nat) (h : TmS w B v l) (hc : IS w B' c x) (hl : plB l = true) (hx : x ∈ ceL l) (hil : i < l.length) (hkl : k < l.length) (hik : i ≠ k) :
    Calls Tryz.prog 45 #[v, c, .agg #[.int .i64 (i : Int), .int .i64 (k : Int)]] w fun e w' => e = .returned (enV i k (enT l x i k)) ∧ Below w.heap.size w w' := by
  have HL := Lib.hid hl
  have HX := Lib.hid hx
  have HNE := Lib.hid (ptO_ne hl hil hkl hik)
  have HP6 := Lib.hid (And.intro (in6_of (plB_at hl hil)) (in6_of (plB_at hl hkl)))
  have HSM := Lib.hid (And.intro (ptO_sm (plB_at hl hil)) (ptO_sm (plB_at hl hkl)))
  have H0 := Lib.hid h
  have HC0 := Lib.hid hc
  obtain ⟨At, nt, rfl, -, htp⟩ := TmS.parts h
  obtain ⟨gt, hg1, ht0⟩ := htp i hil
  obtain ⟨gt', hg2, hu0⟩ := htp k hkl
  subst hg1
  cases hg2
  obtain ⟨n, hn⟩ : ∃ n, n = l.length := ⟨_, rfl⟩
  have HN := Lib.hid hn
  rw [← hn] at hil hkl ⊢
  have l1 : (i : Int) < (n : Int) := by omega
  have l2 : (k : Int) < (n : Int) := by omega
  obtain ⟨hE, hB3⟩ := EsB.new w (.slice (some ⟨gt, 0, none⟩) n nt) i k
  have hX3 := And.intro (X3.below ht0 hB3) (X3.below hu0 hB3)
  have HQ1 := Lib.hid (fun t W => show Calls Tryz.prog 68 #[tmV t] W fun e w' => e = .returned (ptV (ptO t)) ∧ Gr W w' from pointOf_any t W)
  have HQ3 := Lib.hid (fun W => stepTo_any (ptO (td l i)) (ptO (td l k)) W HSM.out.1 HSM.out.2)
  clear h hc hl hx htp ht0 hu0 hn
  go_enter Tryz.func45, Tryz.ntmps45
  go_upto_region 1 with fail
  generalize ((w.alloc (.cells #[.slice (some ⟨gt, 0, none⟩) n nt] 27)).alloc (.cells #[.int .i64 (i : Int), .int .i64 (k : Int)] 51)).alloc (.cells #[.int .i64 0, .int .i64 0, .int .i64 0, .int .i64 0, .int .i64 0] 50) = w3 at hE hB3 hX3 ⊢
  have HE := Lib.hid hE
  have HB3 := Lib.hid hB3
  have HXC := Lib.hid hX3
  obtain ⟨⟨a0, a1, a2⟩, -⟩ := hX3
  obtain ⟨y0, ⟨y1, y2⟩, -⟩ := hE
  go_wp2_with fail
  refine (HQ1.out _ _).mono ?_
  rintro e w4 ⟨rfl, hg4⟩
  have hE4 := HE.out.below hg4.below
  have hb4 := bel2 HB3.out hg4.below
  have hX4 := And.intro (X3.below HXC.out.1 hg4.below) (X3.below HXC.out.2 hg4.below)
  have bA : Below w4.heap.size w4 (w4.alloc (.cells #[.int .i64 (ptO (td l i)).1, .int .i64 (ptO (td l i)).2] 64)) := (Below.refl _ _).alloc (Nat.le_refl _) _
  have HE5 := Lib.hid (hE4.below bA)
  have HB5 := Lib.hid (bel2 hb4 bA)
  have HX5 := Lib.hid (And.intro (X3.below hX4.1 bA) (X3.below hX4.2 bA))
  have HP5 := Lib.hid (P2.new w4 (ptO (td l i)) 64)
  clear hE4 hb4 hX4 bA hg4 HE HB3 HXC a0 a1 a2 y0 y1 y2 hB3
  go_upto_region 2 with fail
  generalize hN7 : w4.heap.size = N7 at HP5 ⊢
  generalize w4.alloc (.cells #[.int .i64 (ptO (td l i)).1, .int .i64 (ptO (td l i)).2] 64) = w5 at HE5 HB5 HX5 HP5 ⊢
  refine wp_region_inv (by kernel_rfl) (fun L a' w' => ∃ s8 s19 s20 s21 s22 s23 s24 s25 s26, a' = actEf (Value.slice (some { block := gt, off := 0 }) n nt) c (Value.agg #[Value.int IntKind.i64 ↑i, Value.int IntKind.i64 ↑k]) (Value.pointer (some { block := w.heap.size, off := 0 })) undef (Value.pointer (some { block := w.heap.size + 1, off := 0 })) (Value.pointer (some { block := w.heap.size + 1 + 1, off := 0 })) (Value.pointer (some { block := N7, off := 0 })) undef undef undef undef (Value.slice (some { block := gt, off := 0 }) n nt) (Value.pointer (some { block := w.heap.size + 1, off := 0 })) (Value.int IntKind.i64 ↑i) (Value.pointer (some { block := gt, off := i * 3 })) (Value.agg #[Value.int IntKind.i64 (td l i).fst, Value.int IntKind.i64 (td l i).snd.fst, Value.int IntKind.i64 (td l i).snd.snd]) (ptV (ptO (td l i))) undef undef undef undef undef undef undef undef undef undef undef undef undef undef undef undef undef undef undef undef undef undef undef undef undef undef undef undef undef undef s8 s19 s20 s21 s22 s23 s24 s25 s26 ∧ IvEf w5 l gt n nt w.heap.size i k L s8 s19 s20 s21 s22 s23 s24 s25 s26 w') ?_ ?_ ?_
  · exact ⟨_, _, _, _, _, _, _, _, _, rfl, IvEf.start w5 l gt n nt w.heap.size i k _ _ _ _ _ _ _ _ _ ⟩
  · rintro L a' w' i ⟨s8, s19, s20, s21, s22, s23, s24, s25, s26, rfl, H⟩ hi
    obtain ⟨hL, o, ho, haf⟩ := mem_ready.1 hi
    have hiN : i < 10 := (Array.getElem?_eq_some_iff.1 ho).1
    clear hi
    obtain ⟨c0, c1, c2⟩ := X3.below HX5.out.2 H.bel
    obtain ⟨y0, ⟨y1, y2⟩, -⟩ := HE5.out.below H.bel
    obtain ⟨z0, z1⟩ := P2.below HP5 H.bel
    have hcs : i = 0 ∨ i = 1 ∨ i = 2 ∨ i = 3 ∨ i = 4 ∨ i = 5 ∨ i = 6 ∨ i = 7 ∨ i = 8 ∨ i = 9 := by omega
    rcases hcs with rfl | rfl | rfl | rfl | rfl | rfl | rfl | rfl | rfl | rfl
    · cases ho
      refine wpOp_step rfl fun K' hK => ?_
      rw [if_pos (by rfl)]
      go_simp
      exact hK _ _ ⟨_, _, _, _, _, _, _, _, _, rfl, H.o0⟩
    · cases ho
      refine wpOp_step rfl fun K' hK => ?_
      rw [if_pos (by rfl)]
      go_simp
      exact hK _ _ ⟨_, _, _, _, _, _, _, _, _, rfl, H.o1⟩
    · cases ho
      refine wpOp_step rfl fun K' hK => ?_
      rw [if_pos (by rfl)]
      go_simp
      exact hK _ _ ⟨_, _, _, _, _, _, _, _, _, rfl, H.o2⟩
    · cases ho
      have e2 := H.c2 (haf_of haf 2 (by kernel_rfl))
      subst e2
      refine wpOp_step rfl fun K' hK => ?_
      rw [if_pos (by rfl)]
      go_simp
      exact hK _ _ ⟨_, _, _, _, _, _, _, _, _, rfl, H.o3⟩
    · cases ho
      have e1 := H.c1 (haf_of haf 1 (by kernel_rfl))
      subst e1
      have e3 := H.c3 (haf_of haf 3 (by kernel_rfl))
      subst e3
      refine wpOp_step rfl fun K' hK => ?_
      rw [if_pos (by rfl)]
      go_simp
      exact hK _ _ ⟨_, _, _, _, _, _, _, _, _, rfl, H.o4⟩
    · cases ho
      have e4 := H.c4 (haf_of haf 4 (by kernel_rfl))
      subst e4
      refine wpOp_step rfl fun K' hK => ?_
      rw [if_pos (by rfl)]
      go_simp
      exact hK _ _ ⟨_, _, _, _, _, _, _, _, _, rfl, H.o5⟩
    · cases ho
      have e5 := H.c5 (haf_of haf 5 (by kernel_rfl))
      subst e5
      refine wpOp_step rfl fun K' hK => ?_
      rw [if_pos (by rfl)]
      go_simp
      refine (HQ1.out _ _).mono ?_
      rintro e w1 ⟨rfl, hg⟩
      exact hK _ _ ⟨_, _, _, _, _, _, _, _, _, rfl, H.o6 hg.below⟩
    · cases ho
      have e0 := H.c0 (haf_of haf 0 (by kernel_rfl))
      subst e0
      have e6 := H.c6 (haf_of haf 6 (by kernel_rfl))
      subst e6
      refine wpOp_step rfl fun K' hK => ?_
      rw [if_pos (by rfl)]
      go_simp
      refine (HQ3.out _).mono ?_
      rintro e w1 ⟨rfl, hg⟩
      exact hK _ _ ⟨_, _, _, _, _, _, _, _, _, rfl, H.o7 hg.below⟩
    · refine wpOp_step rfl fun K' hK => ?_
      rw [if_pos (by rfl)]
      go_simp
      exact hK _ _ ⟨_, _, _, _, _, _, _, _, _, rfl, H.o8 hL⟩
    · cases ho
      have l8 : L.getD 8 false = true := (haf_of haf 8 (by kernel_rfl))
      have e0 := H.c7 (haf_of haf 7 (by kernel_rfl))
      obtain ⟨p, hb⟩ := H.b8 l8
      obtain ⟨g, hs, hge, -⟩ := id hb
      subst e0
      subst hs
      obtain ⟨⟨k0, k1⟩, f0, f1⟩ := hb.cells
      refine wpOp_step rfl fun K' hK => ?_
      rw [if_pos (by rfl)]
      go_simp
      exact hK _ _ ⟨_, _, _, _, _, _, _, _, _, rfl, H.o9 l8 rfl hb hge⟩
  · rintro L a' w' ⟨s8, s19, s20, s21, s22, s23, s24, s25, s26, rfl, H⟩ hr
    have hall := ready_nil H.z (by kernel_rfl) hr
    have h9 := H.e9 (hall 9 (by decide))
    have hB := H.bel
    obtain ⟨g8, hs8, hge8, -⟩ := id h9
    subst hs8
    obtain ⟨⟨k0, k1⟩, -⟩ := h9.cells
    have HE := Lib.hid (HE5.out.below hB)
    have HP := Lib.hid (P2.below HP5 hB)
    have HW := Lib.hid (bel2 HB5.out hB)
    have hb6 := wt_bd HP6.out.1 HP6.out.2 HNE.out
    obtain ⟨p, hp⟩ : ∃ p, p = ptO (td l i) := ⟨_, rfl⟩
    obtain ⟨q, hq⟩ : ∃ q, q = ptO (td l k) := ⟨_, rfl⟩
    have HPD := Lib.hid (And.intro hp hq)
    rw [← hp, ← hq] at HNE HP6 hb6 k0 k1
    rw [← hp] at HP
    have HS := Lib.hid (show P2 w' g8 (dfP p q) from ⟨k0, k1⟩)
    have HSM2 := Lib.hid (show ∀ s, s = dfP p q → (-6 ≤ s.1 ∧ s.1 ≤ 6) ∧ (-6 ≤ s.2 ∧ s.2 ≤ 6) from fun s hs => by
      have h1 := HP6.out.1
      have h2 := HP6.out.2
      unfold In6 at h1 h2
      rw [hs]; unfold dfP; dsimp only; omega)
    have HGW := Lib.hid (show ∀ s, s = dfP p q → gI s.1 s.2 = wtP p q ∧ (-s.2).tdiv (wtP p q) = dxP p q ∧ s.1.tdiv (wtP p q) = dyP p q from fun s hs => by
      rw [hs]; refine ⟨rfl, ?_, rfl⟩
      unfold dxP dfP; dsimp only; rw [show -(q.2 - p.2) = p.2 - q.2 by omega])
    obtain ⟨s, hs⟩ : ∃ s, s = dfP p q := ⟨_, rfl⟩
    have hs6 := HSM2.out s hs
    obtain ⟨hg1, hg2, hg3⟩ := HGW.out s hs
    have HSD := Lib.hid hs
    rw [← hs] at k0 k1
    obtain ⟨W, hW⟩ : ∃ W, W = wtP p q := ⟨_, rfl⟩
    obtain ⟨dx, hdx⟩ : ∃ dx, dx = dxP p q := ⟨_, rfl⟩
    obtain ⟨dy, hdy⟩ : ∃ dy, dy = dyP p q := ⟨_, rfl⟩
    rw [← hW] at hb6 hg1 hg2 hg3
    rw [← hdx] at hb6 hg2
    rw [← hdy] at hb6 hg3
    obtain ⟨⟨b1, b2⟩, ⟨b3, b4⟩, b5, b6⟩ := hb6
    obtain ⟨⟨c1, c2⟩, c3, c4⟩ := hs6
    have HET := Lib.hid (show (rgB l x i k = true → enT l x i k = [-dx, -dy, W]) ∧ (rgB l x i k = false → enT l x i k = [dx, dy, W]) from
      ⟨fun h => by rw [enT_yes h, ← HPD.out.1, ← HPD.out.2, hW, hdx, hdy], fun h => by rw [enT_no h, ← HPD.out.1, ← HPD.out.2, hW, hdx, hdy]⟩)
    have HRG := Lib.hid (show rgB l x i k = decide (∃ m ∈ x, decide (trn p q (ptO (td l m.toNat)) < 0) = true) by
      unfold rgB; rw [← HPD.out.1, ← HPD.out.2, decide_eq_decide]; simp only [decide_eq_true_eq])
    have wz : (W == 0) = false := by simp; omega
    have wz' : ¬ W = 0 := by omega
    have x0 : IntKind.i64.wrap (-s.2) = -s.2 := IntWalk.i64_in _ (by omega)
    have x1 : IntKind.i64.wrap dx = dx := IntWalk.i64_in _ (by omega)
    have x2 : IntKind.i64.wrap dy = dy := IntWalk.i64_in _ (by omega)
    have x3 : IntKind.i64.wrap (-dx) = -dx := IntWalk.i64_in _ (by omega)
    have x4 : IntKind.i64.wrap (-dy) = -dy := IntWalk.i64_in _ (by omega)
    have lg8 : g8 < w'.heap.size := cell_lt k0
    have HTM := Lib.hid (FS.below H0.out HW.out)
    have HC := Lib.hid (HC0.out.below HW.out)
    clear H hall hr h9 hB hs hW hdx hdy HGW HSM2 HE5 HP5 HB5 HX5 hp hq H0 HC0
    go_wp2_with fail
    refine (greatestDivisor_any _ _ _ (by unfold wide; omega) (by unfold wide; omega)).mono ?_
    rintro e w6 ⟨rfl, nq, rfl⟩
    rw [hg1]
    have HW2 := Lib.hid (belN (Below.refl w'.heap.size w') nq)
    have hk0 : (w'.drewN nq).cell? ⟨g8, 0, none⟩ = some (.int .i64 s.1) := k0
    have hk1 : (w'.drewN nq).cell? ⟨g8, 1, none⟩ = some (.int .i64 s.2) := k1
    clear k0 k1 lg8
    generalize w'.drewN nq = w6 at HW2 hk0 hk1 ⊢
    go_wp2
    go_quiet (fail)
    have HW3 := Lib.hid (bel2 HW2.out (belN (Below.refl w6.heap.size w6) nq))
    generalize w6.drewN nq = w7 at HW3 ⊢
    clear hk0 hk1 HW2
    have HPR := Lib.hid (show PrAt 71 #[.pointer (some ⟨g8, 0, none⟩), .pointer (some ⟨N7, 0, none⟩), .pointer (some ⟨w.heap.size, 0, none⟩)] x (fun m => decide (trn p q (ptO (td l m.toNat)) < 0)) w7 from fun W' m hm hbW => by
      have hb' := bel2 HW3.out hbW
      have hmb := (ceL_bd HX.out).1 m hm
      obtain ⟨k', rfl⟩ : ∃ k' : Nat, m = k' := ⟨m.toNat, by omega⟩
      obtain ⟨At', capt', ht1, -, htp⟩ := TmS.parts HTM.out
      obtain ⟨gt', hg1', ht0⟩ := htp k' (by omega)
      simp only [Value.slice.injEq] at ht1
      obtain ⟨hat, -, -⟩ := ht1
      rw [hg1'] at hat
      simp only [Option.some.injEq, Addr.mk.injEq, and_true] at hat
      subst hat
      have hkk : k' < l.length := by omega
      have := isAtRight_any W' l gt n nt k' g8 N7 w.heap.size p q HN.out hkk HL.out HP6.out.1 HP6.out.2 (P2.below HS.out hb') (P2.below HP.out hb') (box_o HE.out.1 hb') (X3.below ht0 hb')
      simp only [Int.toNat_natCast]
      exact this)
    have HCT := Lib.hid (containsI_any w7 _ _ x (HC.out.below HW3.out) _ _ ent_right _ HPR.out)
    rw [← HRG.out] at HCT
    clear HPR HC HTM HS HP
    go_wp2_with fail
    refine HCT.out.mono ?_
    rintro e w8 ⟨rfl, hb8⟩
    have HE8 := Lib.hid ((HE.out.below HW3.out).below hb8)
    have HW8 := Lib.hid (bel2 HW.out (bel2 HW3.out hb8))
    obtain ⟨-, ⟨z1, z2⟩, z3⟩ := HE8.out
    have h5 : E5 w8 (w.heap.size + 1 + 1) 0 0 0 0 0 := z3
    obtain ⟨⟨y0, y1, y2, y3, y4⟩, f0, f1, f2, f3, f4⟩ := h5.cells
    have H5 := Lib.hid h5
    have lN : w.heap.size + 1 < w8.heap.size := cell_lt z1
    have lN2 : w.heap.size + 1 + 1 < w8.heap.size := cell_lt y0
    clear hb8 z3 h5 HE HW HW3 HCT
    cases hrg : rgB l x i k
    · have HT := Lib.hid (HET.out.2 hrg)
      clear hrg
      go_wp2
      refine bodyPost_ret (E5.result (g := w.heap.size + 1 + 1) (H5.out.put (i : Int) (k : Int) dx dy W) rfl rfl) rfl ?_
      exact ⟨by rw [HT.out]; rfl, belS5 HW8.out (by omega) _ _ _ _ _⟩
    · have HT := Lib.hid (HET.out.1 hrg)
      clear hrg
      go_wp2
      refine bodyPost_ret (E5.result (g := w.heap.size + 1 + 1) (H5.out.put (i : Int) (k : Int) (-dx) (-dy) W) rfl rfl) rfl ?_
      exact ⟨by rw [HT.out]; rfl, belS5 HW8.out (by omega) _ _ _ _ _⟩
end Go.Proofs.YtcfplfjllnojoaaGreat
