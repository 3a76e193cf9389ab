/-
  The model of cells, first part: points of terms, heights, one cell.
  Condition: the terms are valid.
-/
import Derived.Test.YthegkifhbgopoaaCeM
import Derived.Test.YthegkifhbgopoaaTm
import Derived.Test.YthegkifhbgopoaaPg
import Derived.Test.YthegkifhbgopoaaRow
import Derived.Test.YthegkifhbgopoaaShift
import Derived.RegionTactic
namespace Go.Proofs.Ythegkifhbgopoaa
set_option linter.unusedSimpArgs false
set_option linter.unusedVariables false
open Go.ChangeShapes Go.WideShapes Go.ChangeAt Go.RowKit
open Go.Sort (grow)

theorem belG {x w w' : World} (h : Below x.heap.size x w) (hg : Gr w w') : Below x.heap.size x w' := bel2 h hg.below
theorem ptO_sm {t : Tm} (h : plT t = true) : Sm 1000 (ptO t) := by
  have := plT_parts h
  unfold Sm ptO
  dsimp only
  omega
/-- A term in a row, behind draws and new blocks. -/
theorem X3.gr {w w' : World} {g i : Nat} {t : Tm} (h : X3 w g i t) (hg : Gr w w') : X3 w' g i t := h.below hg.below
theorem T3.gr {w w' : World} {g : Nat} {t : Tm} (h : T3 w g t) (hg : Gr w w') : T3 w' g t := h.below hg.below
theorem l1Sign_any (n : Int) (w : World) : Calls Try.prog 97 #[.int .i64 n] w fun e w' => e = .returned (.int .i64 (sgI n)) ∧ w = w' := by
  by_cases h1 : 0 < n
  · go_enter Try.func97, Try.ntmps97
    go_wp2
    go_ret
    exact ⟨ret_i64 (by unfold sgI; rw [if_neg (by omega), if_pos h1]), rfl⟩
  · by_cases h2 : n < 0
    · go_enter Try.func97, Try.ntmps97
      go_wp2
      go_ret
      exact ⟨ret_i64 (by unfold sgI; rw [if_pos (by omega)]), rfl⟩
    · go_enter Try.func97, Try.ntmps97
      go_wp2
      go_ret
      exact ⟨ret_i64 (by unfold sgI; rw [if_neg (by omega), if_neg (by omega)]), rfl⟩
end Go.Proofs.Ythegkifhbgopoaa
/-
  The model's height of a term above the plane of three others: what the call returns.
  Condition: the terms are valid.
-/
namespace Go.Proofs.Ythegkifhbgopoaa
set_option linter.unusedSimpArgs false
set_option linter.unusedVariables false
open Go.ChangeShapes Go.WideShapes Go.ChangeAt Go.RowKit
open Go.Sort (grow)

/-- Four terms' blocks, and nothing that lay there when x was has changed. -/
abbrev S12 (x : World) (g : Nat) (a b c t : Tm) (w : World) : Prop :=
  (w.cell? ⟨g, 0, none⟩ = some (.int .i64 a.1) ∧ w.cell? ⟨g, 1, none⟩ = some (.int .i64 a.2.1) ∧ w.cell? ⟨g, 2, none⟩ = some (.int .i64 a.2.2)) ∧
  (w.cell? ⟨g + 1, 0, none⟩ = some (.int .i64 b.1) ∧ w.cell? ⟨g + 1, 1, none⟩ = some (.int .i64 b.2.1) ∧ w.cell? ⟨g + 1, 2, none⟩ = some (.int .i64 b.2.2)) ∧
  (w.cell? ⟨g + 2, 0, none⟩ = some (.int .i64 c.1) ∧ w.cell? ⟨g + 2, 1, none⟩ = some (.int .i64 c.2.1) ∧ w.cell? ⟨g + 2, 2, none⟩ = some (.int .i64 c.2.2)) ∧
  (w.cell? ⟨g + 3, 0, none⟩ = some (.int .i64 t.1) ∧ w.cell? ⟨g + 3, 1, none⟩ = some (.int .i64 t.2.1) ∧ w.cell? ⟨g + 3, 2, none⟩ = some (.int .i64 t.2.2)) ∧ Below x.heap.size x w
theorem S12.mk {x w : World} {g : Nat} {a b c t : Tm} (h : S12 x g a b c t x) (hb : Below x.heap.size x w) : S12 x g a b c t w :=
  ⟨T3.below h.1 hb, T3.below h.2.1 hb, T3.below h.2.2.1 hb, T3.below h.2.2.2.1 hb, hb⟩
theorem S12.bel {x w : World} {g : Nat} {a b c t : Tm} (h : S12 x g a b c t w) : Below x.heap.size x w := h.2.2.2.2
theorem S12.new (w : World) (a b c t : Tm) : S12 ((((w.alloc (.cells #[.int .i64 a.1, .int .i64 a.2.1, .int .i64 a.2.2] 74)).alloc (.cells #[.int .i64 b.1, .int .i64 b.2.1, .int .i64 b.2.2] 74)).alloc (.cells #[.int .i64 c.1, .int .i64 c.2.1, .int .i64 c.2.2] 74)).alloc (.cells #[.int .i64 t.1, .int .i64 t.2.1, .int .i64 t.2.2] 74)) w.heap.size a b c t
    ((((w.alloc (.cells #[.int .i64 a.1, .int .i64 a.2.1, .int .i64 a.2.2] 74)).alloc (.cells #[.int .i64 b.1, .int .i64 b.2.1, .int .i64 b.2.2] 74)).alloc (.cells #[.int .i64 c.1, .int .i64 c.2.1, .int .i64 c.2.2] 74)).alloc (.cells #[.int .i64 t.1, .int .i64 t.2.1, .int .i64 t.2.2] 74)) := by
  have bA : ∀ (W : World) (o : Obj), Below W.heap.size W (W.alloc o) := fun W o => (Below.refl _ _).alloc (Nat.le_refl _) o
  have h1 := T3.new w a 74
  generalize hw1 : w.alloc (.cells #[.int .i64 a.1, .int .i64 a.2.1, .int .i64 a.2.2] 74) = w1 at h1 ⊢
  have s1 : w1.heap.size = w.heap.size + 1 := by rw [← hw1]; simp
  have h2 := T3.new w1 b 74
  have h1' := T3.below h1 (bA w1 (.cells #[.int .i64 b.1, .int .i64 b.2.1, .int .i64 b.2.2] 74))
  generalize hw2 : w1.alloc (.cells #[.int .i64 b.1, .int .i64 b.2.1, .int .i64 b.2.2] 74) = w2 at h2 h1' ⊢
  have s2 : w2.heap.size = w.heap.size + 2 := by rw [← hw2]; simp [s1]
  have h3 := T3.new w2 c 74
  have h2' := T3.below h2 (bA w2 (.cells #[.int .i64 c.1, .int .i64 c.2.1, .int .i64 c.2.2] 74))
  have h1'' := T3.below h1' (bA w2 (.cells #[.int .i64 c.1, .int .i64 c.2.1, .int .i64 c.2.2] 74))
  generalize hw3 : w2.alloc (.cells #[.int .i64 c.1, .int .i64 c.2.1, .int .i64 c.2.2] 74) = w3 at h3 h2' h1'' ⊢
  have s3 : w3.heap.size = w.heap.size + 3 := by rw [← hw3]; simp [s2]
  have h4 := T3.new w3 t 74
  rw [s1] at h2'; rw [s2] at h3; rw [s3] at h4
  exact ⟨T3.below h1'' (bA w3 _), T3.below h2' (bA w3 _), T3.below h3 (bA w3 _), h4, Below.refl _ _⟩
/-- A new block of a point: from block N on, it holds p. -/
def Bo (N : Nat) (w : World) (v : Value) (p : Pt) : Prop := ∃ g, v = .pointer (some ⟨g, 0, none⟩) ∧ N ≤ g ∧ w.heap[g]? = some (.cells #[.int .i64 p.1, .int .i64 p.2] 108 (0, 0))
theorem Bo.gr {N : Nat} {w w' : World} {v : Value} {p : Pt} (h : Bo N w v p) (hg : Gr w w') : Bo N w' v p := by
  obtain ⟨g, h1, h2, h3⟩ := h
  exact ⟨g, h1, h2, (hg.below.block g (Array.getElem?_eq_some_iff.1 h3).1).trans h3⟩
theorem Bo.new {N : Nat} {w : World} (h : N ≤ w.heap.size) : Bo N (w.alloc (.cells #[.int .i64 0, .int .i64 0] 108)) (.pointer (some ⟨w.heap.size, 0, none⟩)) (0, 0) :=
  ⟨_, rfl, h, heap_alloc_new w _⟩
theorem Bo.ne_new {N : Nat} {w : World} {v : Value} {p : Pt} (h : Bo N w v p) : v ≠ .pointer (some ⟨w.heap.size, 0, none⟩) := by
  obtain ⟨g, rfl, h2, h3⟩ := h
  intro e
  have h4 := (Array.getElem?_eq_some_iff.1 h3).1
  simp only [Value.pointer.injEq, Option.some.injEq, Addr.mk.injEq] at e
  omega
theorem Bo.at {N g : Nat} {w : World} {p : Pt} (h : Bo N w (.pointer (some ⟨g, 0, none⟩)) p) : N ≤ g ∧ w.heap[g]? = some (.cells #[.int .i64 p.1, .int .i64 p.2] 108 (0, 0)) := by
  obtain ⟨g', h1, h2, h3⟩ := h
  simp only [Value.pointer.injEq, Option.some.injEq, Addr.mk.injEq] at h1
  obtain ⟨rfl, -⟩ := h1
  exact ⟨h2, h3⟩
theorem Bo.cells {N g : Nat} {w : World} {p : Pt} (h : Bo N w (.pointer (some ⟨g, 0, none⟩)) p) : (w.cell? ⟨g, 0, none⟩ = some (.int .i64 p.1) ∧ w.cell? ⟨g, 1, none⟩ = some (.int .i64 p.2)) ∧ w.frozen? ⟨g, 0, none⟩ = false ∧ w.frozen? ⟨g, 1, none⟩ = false := by
  have h3 := h.at.2
  refine ⟨⟨?_, ?_⟩, ?_, ?_⟩ <;> simp [World.cell?, World.frozen?, h3]
theorem Bo.put {N g : Nat} {w : World} {p : Pt} (h : Bo N w (.pointer (some ⟨g, 0, none⟩)) p) (q : Pt) : Bo N ((w.setCell ⟨g, 0, none⟩ (.int .i64 q.1)).setCell ⟨g, 1, none⟩ (.int .i64 q.2)) (.pointer (some ⟨g, 0, none⟩)) q := by
  obtain ⟨h1, h2⟩ := h.at
  exact ⟨g, rfl, h1, heap_set_at _ (heap_set_at _ h2)⟩
theorem Bo.off {N g : Nat} {w : World} {v : Value} {p : Pt} (h : Bo N w v p) (hne : v ≠ .pointer (some ⟨g, 0, none⟩)) {u u' : Value} : Bo N ((w.setCell ⟨g, 0, none⟩ u).setCell ⟨g, 1, none⟩ u') v p := by
  obtain ⟨g', rfl, h2, h3⟩ := h
  have hn : g' ≠ g := fun e => hne (by rw [e])
  exact ⟨g', rfl, h2, ((Below.heap_setCell _ _ _ g' hn).trans (Below.heap_setCell _ _ _ g' hn)).trans h3⟩
abbrev actA (a b c t : Tm) (N : Nat) (s9 s10 s11 s12 s15 s16 s17 s18 s19 s20 s21 s22 : Value) : Act := { tmps := #[tmV a, tmV b, tmV c, tmV t, .pointer (some ⟨N, 0, none⟩), .pointer (some ⟨N + 1, 0, none⟩), .pointer (some ⟨N + 1 + 1, 0, none⟩), .pointer (some ⟨N + 1 + 1 + 1, 0, none⟩), .int .i64 0, s9, s10, s11, s12, undef, undef, s15, s16, s17, s18, s19, s20, s21, s22, undef, undef, undef, undef, undef, undef, undef, undef, undef, undef, undef, undef, undef, undef, undef, undef, undef, undef, undef, undef, undef, undef, undef, undef, undef, undef, undef, undef, undef, undef, undef, undef, undef, undef, undef, undef], defers := [] }
/-- What is known when some operations are done. -/
structure IvA (x : World) (a b c t : Tm) (L : Array Bool) (s9 s10 s11 s12 s15 s16 s17 s18 s19 s20 s21 s22 : Value) (w : World) : Prop where
  z : L.size = 16
  bel : Below x.heap.size x w
  c0 : (L.getD 0 false = true) → s15 = tmV a
  c1 : (L.getD 1 false = true) → s16 = ptV (ptO a)
  c2 : (L.getD 2 false = true) → s17 = tmV b
  c3 : (L.getD 3 false = true) → s18 = ptV (ptO b)
  c4 : (L.getD 4 false = true) → s19 = tmV c
  c5 : (L.getD 5 false = true) → s20 = ptV (ptO c)
  c6 : (L.getD 6 false = true) → s21 = tmV t
  c7 : (L.getD 7 false = true) → s22 = ptV (ptO t)
  b0 : (L.getD 8 false = true) → ∃ p, Bo x.heap.size w s9 p
  b1 : (L.getD 9 false = true) → ∃ p, Bo x.heap.size w s10 p
  b2 : (L.getD 10 false = true) → ∃ p, Bo x.heap.size w s11 p
  b3 : (L.getD 11 false = true) → ∃ p, Bo x.heap.size w s12 p
  d01 : (L.getD 8 false = true) → (L.getD 9 false = true) → s9 ≠ s10
  d02 : (L.getD 8 false = true) → (L.getD 10 false = true) → s9 ≠ s11
  d03 : (L.getD 8 false = true) → (L.getD 11 false = true) → s9 ≠ s12
  d12 : (L.getD 9 false = true) → (L.getD 10 false = true) → s10 ≠ s11
  d13 : (L.getD 9 false = true) → (L.getD 11 false = true) → s10 ≠ s12
  d23 : (L.getD 10 false = true) → (L.getD 11 false = true) → s11 ≠ s12
  f0 : (L.getD 12 false = true) → (L.getD 8 false = true)
  f1 : (L.getD 13 false = true) → (L.getD 9 false = true)
  f2 : (L.getD 14 false = true) → (L.getD 10 false = true)
  f3 : (L.getD 15 false = true) → (L.getD 11 false = true)
  e0 : (L.getD 12 false = true) → Bo x.heap.size w s9 (ptO a)
  e1 : (L.getD 13 false = true) → Bo x.heap.size w s10 (ptO b)
  e2 : (L.getD 14 false = true) → Bo x.heap.size w s11 (ptO c)
  e3 : (L.getD 15 false = true) → Bo x.heap.size w s12 (ptO t)
theorem IvA.start (x : World) (a b c t : Tm) : IvA x a b c t (Array.replicate 16 false) undef undef undef undef undef undef undef undef undef undef undef undef x.drew where
  z := rfl
  bel := belD (Below.refl _ _)
  c0 := fun h => by simp at h
  c1 := fun h => by simp at h
  c2 := fun h => by simp at h
  c3 := fun h => by simp at h
  c4 := fun h => by simp at h
  c5 := fun h => by simp at h
  c6 := fun h => by simp at h
  c7 := fun h => by simp at h
  b0 := fun h => by simp at h
  b1 := fun h => by simp at h
  b2 := fun h => by simp at h
  b3 := fun h => by simp at h
  d01 := fun h => by simp at h
  d02 := fun h => by simp at h
  d03 := fun h => by simp at h
  d12 := fun h => by simp at h
  d13 := fun h => by simp at h
  d23 := fun h => by simp at h
  f0 := fun h => by simp at h
  f1 := fun h => by simp at h
  f2 := fun h => by simp at h
  f3 := fun h => by simp at h
  e0 := fun h => by simp at h
  e1 := fun h => by simp at h
  e2 := fun h => by simp at h
  e3 := fun h => by simp at h
theorem IvA.o0 {x : World} {a b c t : Tm} {L : Array Bool} {s9 s10 s11 s12 s15 s16 s17 s18 s19 s20 s21 s22 : Value} {w : World} (H : IvA x a b c t L s9 s10 s11 s12 s15 s16 s17 s18 s19 s20 s21 s22 w)  : IvA x a b c t (L.setIfInBounds 0 true) s9 s10 s11 s12 (tmV a) s16 s17 s18 s19 s20 s21 s22 w where
  z := by rw [Array.size_setIfInBounds]; exact H.z
  bel := H.bel
  c0 := fun _ => rfl
  c1 := fun h => H.c1 (by rwa [getD_set_ne _ (by decide)] at h)
  c2 := fun h => H.c2 (by rwa [getD_set_ne _ (by decide)] at h)
  c3 := fun h => H.c3 (by rwa [getD_set_ne _ (by decide)] at h)
  c4 := fun h => H.c4 (by rwa [getD_set_ne _ (by decide)] at h)
  c5 := fun h => H.c5 (by rwa [getD_set_ne _ (by decide)] at h)
  c6 := fun h => H.c6 (by rwa [getD_set_ne _ (by decide)] at h)
  c7 := fun h => H.c7 (by rwa [getD_set_ne _ (by decide)] at h)
  b0 := fun h => (H.b0 (by rwa [getD_set_ne _ (by decide)] at h))
  b1 := fun h => (H.b1 (by rwa [getD_set_ne _ (by decide)] at h))
  b2 := fun h => (H.b2 (by rwa [getD_set_ne _ (by decide)] at h))
  b3 := fun h => (H.b3 (by rwa [getD_set_ne _ (by decide)] at h))
  d01 := fun h h' => H.d01 (by rwa [getD_set_ne _ (by decide)] at h) (by rwa [getD_set_ne _ (by decide)] at h')
  d02 := fun h h' => H.d02 (by rwa [getD_set_ne _ (by decide)] at h) (by rwa [getD_set_ne _ (by decide)] at h')
  d03 := fun h h' => H.d03 (by rwa [getD_set_ne _ (by decide)] at h) (by rwa [getD_set_ne _ (by decide)] at h')
  d12 := fun h h' => H.d12 (by rwa [getD_set_ne _ (by decide)] at h) (by rwa [getD_set_ne _ (by decide)] at h')
  d13 := fun h h' => H.d13 (by rwa [getD_set_ne _ (by decide)] at h) (by rwa [getD_set_ne _ (by decide)] at h')
  d23 := fun h h' => H.d23 (by rwa [getD_set_ne _ (by decide)] at h) (by rwa [getD_set_ne _ (by decide)] at h')
  f0 := fun h => by rw [getD_set_ne _ (by decide)]; exact H.f0 (by rwa [getD_set_ne _ (by decide)] at h)
  f1 := fun h => by rw [getD_set_ne _ (by decide)]; exact H.f1 (by rwa [getD_set_ne _ (by decide)] at h)
  f2 := fun h => by rw [getD_set_ne _ (by decide)]; exact H.f2 (by rwa [getD_set_ne _ (by decide)] at h)
  f3 := fun h => by rw [getD_set_ne _ (by decide)]; exact H.f3 (by rwa [getD_set_ne _ (by decide)] at h)
  e0 := fun h => (H.e0 (by rwa [getD_set_ne _ (by decide)] at h))
  e1 := fun h => (H.e1 (by rwa [getD_set_ne _ (by decide)] at h))
  e2 := fun h => (H.e2 (by rwa [getD_set_ne _ (by decide)] at h))
  e3 := fun h => (H.e3 (by rwa [getD_set_ne _ (by decide)] at h))
theorem IvA.o1 {x : World} {a b c t : Tm} {L : Array Bool} {s9 s10 s11 s12 s15 s16 s17 s18 s19 s20 s21 s22 : Value} {w : World} (H : IvA x a b c t L s9 s10 s11 s12 s15 s16 s17 s18 s19 s20 s21 s22 w) {w' : World} (hg : Gr w w') : IvA x a b c t (L.setIfInBounds 1 true) s9 s10 s11 s12 s15 (ptV (ptO a)) s17 s18 s19 s20 s21 s22 w' where
  z := by rw [Array.size_setIfInBounds]; exact H.z
  bel := belG H.bel hg
  c0 := fun h => H.c0 (by rwa [getD_set_ne _ (by decide)] at h)
  c1 := fun _ => rfl
  c2 := fun h => H.c2 (by rwa [getD_set_ne _ (by decide)] at h)
  c3 := fun h => H.c3 (by rwa [getD_set_ne _ (by decide)] at h)
  c4 := fun h => H.c4 (by rwa [getD_set_ne _ (by decide)] at h)
  c5 := fun h => H.c5 (by rwa [getD_set_ne _ (by decide)] at h)
  c6 := fun h => H.c6 (by rwa [getD_set_ne _ (by decide)] at h)
  c7 := fun h => H.c7 (by rwa [getD_set_ne _ (by decide)] at h)
  b0 := fun h => ((H.b0 (by rwa [getD_set_ne _ (by decide)] at h))).imp fun _ k => k.gr hg
  b1 := fun h => ((H.b1 (by rwa [getD_set_ne _ (by decide)] at h))).imp fun _ k => k.gr hg
  b2 := fun h => ((H.b2 (by rwa [getD_set_ne _ (by decide)] at h))).imp fun _ k => k.gr hg
  b3 := fun h => ((H.b3 (by rwa [getD_set_ne _ (by decide)] at h))).imp fun _ k => k.gr hg
  d01 := fun h h' => H.d01 (by rwa [getD_set_ne _ (by decide)] at h) (by rwa [getD_set_ne _ (by decide)] at h')
  d02 := fun h h' => H.d02 (by rwa [getD_set_ne _ (by decide)] at h) (by rwa [getD_set_ne _ (by decide)] at h')
  d03 := fun h h' => H.d03 (by rwa [getD_set_ne _ (by decide)] at h) (by rwa [getD_set_ne _ (by decide)] at h')
  d12 := fun h h' => H.d12 (by rwa [getD_set_ne _ (by decide)] at h) (by rwa [getD_set_ne _ (by decide)] at h')
  d13 := fun h h' => H.d13 (by rwa [getD_set_ne _ (by decide)] at h) (by rwa [getD_set_ne _ (by decide)] at h')
  d23 := fun h h' => H.d23 (by rwa [getD_set_ne _ (by decide)] at h) (by rwa [getD_set_ne _ (by decide)] at h')
  f0 := fun h => by rw [getD_set_ne _ (by decide)]; exact H.f0 (by rwa [getD_set_ne _ (by decide)] at h)
  f1 := fun h => by rw [getD_set_ne _ (by decide)]; exact H.f1 (by rwa [getD_set_ne _ (by decide)] at h)
  f2 := fun h => by rw [getD_set_ne _ (by decide)]; exact H.f2 (by rwa [getD_set_ne _ (by decide)] at h)
  f3 := fun h => by rw [getD_set_ne _ (by decide)]; exact H.f3 (by rwa [getD_set_ne _ (by decide)] at h)
  e0 := fun h => ((H.e0 (by rwa [getD_set_ne _ (by decide)] at h))).gr hg
  e1 := fun h => ((H.e1 (by rwa [getD_set_ne _ (by decide)] at h))).gr hg
  e2 := fun h => ((H.e2 (by rwa [getD_set_ne _ (by decide)] at h))).gr hg
  e3 := fun h => ((H.e3 (by rwa [getD_set_ne _ (by decide)] at h))).gr hg
theorem IvA.o2 {x : World} {a b c t : Tm} {L : Array Bool} {s9 s10 s11 s12 s15 s16 s17 s18 s19 s20 s21 s22 : Value} {w : World} (H : IvA x a b c t L s9 s10 s11 s12 s15 s16 s17 s18 s19 s20 s21 s22 w)  : IvA x a b c t (L.setIfInBounds 2 true) s9 s10 s11 s12 s15 s16 (tmV b) s18 s19 s20 s21 s22 w where
  z := by rw [Array.size_setIfInBounds]; exact H.z
  bel := H.bel
  c0 := fun h => H.c0 (by rwa [getD_set_ne _ (by decide)] at h)
  c1 := fun h => H.c1 (by rwa [getD_set_ne _ (by decide)] at h)
  c2 := fun _ => rfl
  c3 := fun h => H.c3 (by rwa [getD_set_ne _ (by decide)] at h)
  c4 := fun h => H.c4 (by rwa [getD_set_ne _ (by decide)] at h)
  c5 := fun h => H.c5 (by rwa [getD_set_ne _ (by decide)] at h)
  c6 := fun h => H.c6 (by rwa [getD_set_ne _ (by decide)] at h)
  c7 := fun h => H.c7 (by rwa [getD_set_ne _ (by decide)] at h)
  b0 := fun h => (H.b0 (by rwa [getD_set_ne _ (by decide)] at h))
  b1 := fun h => (H.b1 (by rwa [getD_set_ne _ (by decide)] at h))
  b2 := fun h => (H.b2 (by rwa [getD_set_ne _ (by decide)] at h))
  b3 := fun h => (H.b3 (by rwa [getD_set_ne _ (by decide)] at h))
  d01 := fun h h' => H.d01 (by rwa [getD_set_ne _ (by decide)] at h) (by rwa [getD_set_ne _ (by decide)] at h')
  d02 := fun h h' => H.d02 (by rwa [getD_set_ne _ (by decide)] at h) (by rwa [getD_set_ne _ (by decide)] at h')
  d03 := fun h h' => H.d03 (by rwa [getD_set_ne _ (by decide)] at h) (by rwa [getD_set_ne _ (by decide)] at h')
  d12 := fun h h' => H.d12 (by rwa [getD_set_ne _ (by decide)] at h) (by rwa [getD_set_ne _ (by decide)] at h')
  d13 := fun h h' => H.d13 (by rwa [getD_set_ne _ (by decide)] at h) (by rwa [getD_set_ne _ (by decide)] at h')
  d23 := fun h h' => H.d23 (by rwa [getD_set_ne _ (by decide)] at h) (by rwa [getD_set_ne _ (by decide)] at h')
  f0 := fun h => by rw [getD_set_ne _ (by decide)]; exact H.f0 (by rwa [getD_set_ne _ (by decide)] at h)
  f1 := fun h => by rw [getD_set_ne _ (by decide)]; exact H.f1 (by rwa [getD_set_ne _ (by decide)] at h)
  f2 := fun h => by rw [getD_set_ne _ (by decide)]; exact H.f2 (by rwa [getD_set_ne _ (by decide)] at h)
  f3 := fun h => by rw [getD_set_ne _ (by decide)]; exact H.f3 (by rwa [getD_set_ne _ (by decide)] at h)
  e0 := fun h => (H.e0 (by rwa [getD_set_ne _ (by decide)] at h))
  e1 := fun h => (H.e1 (by rwa [getD_set_ne _ (by decide)] at h))
  e2 := fun h => (H.e2 (by rwa [getD_set_ne _ (by decide)] at h))
  e3 := fun h => (H.e3 (by rwa [getD_set_ne _ (by decide)] at h))
theorem IvA.o3 {x : World} {a b c t : Tm} {L : Array Bool} {s9 s10 s11 s12 s15 s16 s17 s18 s19 s20 s21 s22 : Value} {w : World} (H : IvA x a b c t L s9 s10 s11 s12 s15 s16 s17 s18 s19 s20 s21 s22 w) {w' : World} (hg : Gr w w') : IvA x a b c t (L.setIfInBounds 3 true) s9 s10 s11 s12 s15 s16 s17 (ptV (ptO b)) s19 s20 s21 s22 w' where
  z := by rw [Array.size_setIfInBounds]; exact H.z
  bel := belG H.bel hg
  c0 := fun h => H.c0 (by rwa [getD_set_ne _ (by decide)] at h)
  c1 := fun h => H.c1 (by rwa [getD_set_ne _ (by decide)] at h)
  c2 := fun h => H.c2 (by rwa [getD_set_ne _ (by decide)] at h)
  c3 := fun _ => rfl
  c4 := fun h => H.c4 (by rwa [getD_set_ne _ (by decide)] at h)
  c5 := fun h => H.c5 (by rwa [getD_set_ne _ (by decide)] at h)
  c6 := fun h => H.c6 (by rwa [getD_set_ne _ (by decide)] at h)
  c7 := fun h => H.c7 (by rwa [getD_set_ne _ (by decide)] at h)
  b0 := fun h => ((H.b0 (by rwa [getD_set_ne _ (by decide)] at h))).imp fun _ k => k.gr hg
  b1 := fun h => ((H.b1 (by rwa [getD_set_ne _ (by decide)] at h))).imp fun _ k => k.gr hg
  b2 := fun h => ((H.b2 (by rwa [getD_set_ne _ (by decide)] at h))).imp fun _ k => k.gr hg
  b3 := fun h => ((H.b3 (by rwa [getD_set_ne _ (by decide)] at h))).imp fun _ k => k.gr hg
  d01 := fun h h' => H.d01 (by rwa [getD_set_ne _ (by decide)] at h) (by rwa [getD_set_ne _ (by decide)] at h')
  d02 := fun h h' => H.d02 (by rwa [getD_set_ne _ (by decide)] at h) (by rwa [getD_set_ne _ (by decide)] at h')
  d03 := fun h h' => H.d03 (by rwa [getD_set_ne _ (by decide)] at h) (by rwa [getD_set_ne _ (by decide)] at h')
  d12 := fun h h' => H.d12 (by rwa [getD_set_ne _ (by decide)] at h) (by rwa [getD_set_ne _ (by decide)] at h')
  d13 := fun h h' => H.d13 (by rwa [getD_set_ne _ (by decide)] at h) (by rwa [getD_set_ne _ (by decide)] at h')
  d23 := fun h h' => H.d23 (by rwa [getD_set_ne _ (by decide)] at h) (by rwa [getD_set_ne _ (by decide)] at h')
  f0 := fun h => by rw [getD_set_ne _ (by decide)]; exact H.f0 (by rwa [getD_set_ne _ (by decide)] at h)
  f1 := fun h => by rw [getD_set_ne _ (by decide)]; exact H.f1 (by rwa [getD_set_ne _ (by decide)] at h)
  f2 := fun h => by rw [getD_set_ne _ (by decide)]; exact H.f2 (by rwa [getD_set_ne _ (by decide)] at h)
  f3 := fun h => by rw [getD_set_ne _ (by decide)]; exact H.f3 (by rwa [getD_set_ne _ (by decide)] at h)
  e0 := fun h => ((H.e0 (by rwa [getD_set_ne _ (by decide)] at h))).gr hg
  e1 := fun h => ((H.e1 (by rwa [getD_set_ne _ (by decide)] at h))).gr hg
  e2 := fun h => ((H.e2 (by rwa [getD_set_ne _ (by decide)] at h))).gr hg
  e3 := fun h => ((H.e3 (by rwa [getD_set_ne _ (by decide)] at h))).gr hg
theorem IvA.o4 {x : World} {a b c t : Tm} {L : Array Bool} {s9 s10 s11 s12 s15 s16 s17 s18 s19 s20 s21 s22 : Value} {w : World} (H : IvA x a b c t L s9 s10 s11 s12 s15 s16 s17 s18 s19 s20 s21 s22 w)  : IvA x a b c t (L.setIfInBounds 4 true) s9 s10 s11 s12 s15 s16 s17 s18 (tmV c) s20 s21 s22 w where
  z := by rw [Array.size_setIfInBounds]; exact H.z
  bel := H.bel
  c0 := fun h => H.c0 (by rwa [getD_set_ne _ (by decide)] at h)
  c1 := fun h => H.c1 (by rwa [getD_set_ne _ (by decide)] at h)
  c2 := fun h => H.c2 (by rwa [getD_set_ne _ (by decide)] at h)
  c3 := fun h => H.c3 (by rwa [getD_set_ne _ (by decide)] at h)
  c4 := fun _ => rfl
  c5 := fun h => H.c5 (by rwa [getD_set_ne _ (by decide)] at h)
  c6 := fun h => H.c6 (by rwa [getD_set_ne _ (by decide)] at h)
  c7 := fun h => H.c7 (by rwa [getD_set_ne _ (by decide)] at h)
  b0 := fun h => (H.b0 (by rwa [getD_set_ne _ (by decide)] at h))
  b1 := fun h => (H.b1 (by rwa [getD_set_ne _ (by decide)] at h))
  b2 := fun h => (H.b2 (by rwa [getD_set_ne _ (by decide)] at h))
  b3 := fun h => (H.b3 (by rwa [getD_set_ne _ (by decide)] at h))
  d01 := fun h h' => H.d01 (by rwa [getD_set_ne _ (by decide)] at h) (by rwa [getD_set_ne _ (by decide)] at h')
  d02 := fun h h' => H.d02 (by rwa [getD_set_ne _ (by decide)] at h) (by rwa [getD_set_ne _ (by decide)] at h')
  d03 := fun h h' => H.d03 (by rwa [getD_set_ne _ (by decide)] at h) (by rwa [getD_set_ne _ (by decide)] at h')
  d12 := fun h h' => H.d12 (by rwa [getD_set_ne _ (by decide)] at h) (by rwa [getD_set_ne _ (by decide)] at h')
  d13 := fun h h' => H.d13 (by rwa [getD_set_ne _ (by decide)] at h) (by rwa [getD_set_ne _ (by decide)] at h')
  d23 := fun h h' => H.d23 (by rwa [getD_set_ne _ (by decide)] at h) (by rwa [getD_set_ne _ (by decide)] at h')
  f0 := fun h => by rw [getD_set_ne _ (by decide)]; exact H.f0 (by rwa [getD_set_ne _ (by decide)] at h)
  f1 := fun h => by rw [getD_set_ne _ (by decide)]; exact H.f1 (by rwa [getD_set_ne _ (by decide)] at h)
  f2 := fun h => by rw [getD_set_ne _ (by decide)]; exact H.f2 (by rwa [getD_set_ne _ (by decide)] at h)
  f3 := fun h => by rw [getD_set_ne _ (by decide)]; exact H.f3 (by rwa [getD_set_ne _ (by decide)] at h)
  e0 := fun h => (H.e0 (by rwa [getD_set_ne _ (by decide)] at h))
  e1 := fun h => (H.e1 (by rwa [getD_set_ne _ (by decide)] at h))
  e2 := fun h => (H.e2 (by rwa [getD_set_ne _ (by decide)] at h))
  e3 := fun h => (H.e3 (by rwa [getD_set_ne _ (by decide)] at h))
theorem IvA.o5 {x : World} {a b c t : Tm} {L : Array Bool} {s9 s10 s11 s12 s15 s16 s17 s18 s19 s20 s21 s22 : Value} {w : World} (H : IvA x a b c t L s9 s10 s11 s12 s15 s16 s17 s18 s19 s20 s21 s22 w) {w' : World} (hg : Gr w w') : IvA x a b c t (L.setIfInBounds 5 true) s9 s10 s11 s12 s15 s16 s17 s18 s19 (ptV (ptO c)) s21 s22 w' where
  z := by rw [Array.size_setIfInBounds]; exact H.z
  bel := belG H.bel hg
  c0 := fun h => H.c0 (by rwa [getD_set_ne _ (by decide)] at h)
  c1 := fun h => H.c1 (by rwa [getD_set_ne _ (by decide)] at h)
  c2 := fun h => H.c2 (by rwa [getD_set_ne _ (by decide)] at h)
  c3 := fun h => H.c3 (by rwa [getD_set_ne _ (by decide)] at h)
  c4 := fun h => H.c4 (by rwa [getD_set_ne _ (by decide)] at h)
  c5 := fun _ => rfl
  c6 := fun h => H.c6 (by rwa [getD_set_ne _ (by decide)] at h)
  c7 := fun h => H.c7 (by rwa [getD_set_ne _ (by decide)] at h)
  b0 := fun h => ((H.b0 (by rwa [getD_set_ne _ (by decide)] at h))).imp fun _ k => k.gr hg
  b1 := fun h => ((H.b1 (by rwa [getD_set_ne _ (by decide)] at h))).imp fun _ k => k.gr hg
  b2 := fun h => ((H.b2 (by rwa [getD_set_ne _ (by decide)] at h))).imp fun _ k => k.gr hg
  b3 := fun h => ((H.b3 (by rwa [getD_set_ne _ (by decide)] at h))).imp fun _ k => k.gr hg
  d01 := fun h h' => H.d01 (by rwa [getD_set_ne _ (by decide)] at h) (by rwa [getD_set_ne _ (by decide)] at h')
  d02 := fun h h' => H.d02 (by rwa [getD_set_ne _ (by decide)] at h) (by rwa [getD_set_ne _ (by decide)] at h')
  d03 := fun h h' => H.d03 (by rwa [getD_set_ne _ (by decide)] at h) (by rwa [getD_set_ne _ (by decide)] at h')
  d12 := fun h h' => H.d12 (by rwa [getD_set_ne _ (by decide)] at h) (by rwa [getD_set_ne _ (by decide)] at h')
  d13 := fun h h' => H.d13 (by rwa [getD_set_ne _ (by decide)] at h) (by rwa [getD_set_ne _ (by decide)] at h')
  d23 := fun h h' => H.d23 (by rwa [getD_set_ne _ (by decide)] at h) (by rwa [getD_set_ne _ (by decide)] at h')
  f0 := fun h => by rw [getD_set_ne _ (by decide)]; exact H.f0 (by rwa [getD_set_ne _ (by decide)] at h)
  f1 := fun h => by rw [getD_set_ne _ (by decide)]; exact H.f1 (by rwa [getD_set_ne _ (by decide)] at h)
  f2 := fun h => by rw [getD_set_ne _ (by decide)]; exact H.f2 (by rwa [getD_set_ne _ (by decide)] at h)
  f3 := fun h => by rw [getD_set_ne _ (by decide)]; exact H.f3 (by rwa [getD_set_ne _ (by decide)] at h)
  e0 := fun h => ((H.e0 (by rwa [getD_set_ne _ (by decide)] at h))).gr hg
  e1 := fun h => ((H.e1 (by rwa [getD_set_ne _ (by decide)] at h))).gr hg
  e2 := fun h => ((H.e2 (by rwa [getD_set_ne _ (by decide)] at h))).gr hg
  e3 := fun h => ((H.e3 (by rwa [getD_set_ne _ (by decide)] at h))).gr hg
theorem IvA.o6 {x : World} {a b c t : Tm} {L : Array Bool} {s9 s10 s11 s12 s15 s16 s17 s18 s19 s20 s21 s22 : Value} {w : World} (H : IvA x a b c t L s9 s10 s11 s12 s15 s16 s17 s18 s19 s20 s21 s22 w)  : IvA x a b c t (L.setIfInBounds 6 true) s9 s10 s11 s12 s15 s16 s17 s18 s19 s20 (tmV t) s22 w where
  z := by rw [Array.size_setIfInBounds]; exact H.z
  bel := H.bel
  c0 := fun h => H.c0 (by rwa [getD_set_ne _ (by decide)] at h)
  c1 := fun h => H.c1 (by rwa [getD_set_ne _ (by decide)] at h)
  c2 := fun h => H.c2 (by rwa [getD_set_ne _ (by decide)] at h)
  c3 := fun h => H.c3 (by rwa [getD_set_ne _ (by decide)] at h)
  c4 := fun h => H.c4 (by rwa [getD_set_ne _ (by decide)] at h)
  c5 := fun h => H.c5 (by rwa [getD_set_ne _ (by decide)] at h)
  c6 := fun _ => rfl
  c7 := fun h => H.c7 (by rwa [getD_set_ne _ (by decide)] at h)
  b0 := fun h => (H.b0 (by rwa [getD_set_ne _ (by decide)] at h))
  b1 := fun h => (H.b1 (by rwa [getD_set_ne _ (by decide)] at h))
  b2 := fun h => (H.b2 (by rwa [getD_set_ne _ (by decide)] at h))
  b3 := fun h => (H.b3 (by rwa [getD_set_ne _ (by decide)] at h))
  d01 := fun h h' => H.d01 (by rwa [getD_set_ne _ (by decide)] at h) (by rwa [getD_set_ne _ (by decide)] at h')
  d02 := fun h h' => H.d02 (by rwa [getD_set_ne _ (by decide)] at h) (by rwa [getD_set_ne _ (by decide)] at h')
  d03 := fun h h' => H.d03 (by rwa [getD_set_ne _ (by decide)] at h) (by rwa [getD_set_ne _ (by decide)] at h')
  d12 := fun h h' => H.d12 (by rwa [getD_set_ne _ (by decide)] at h) (by rwa [getD_set_ne _ (by decide)] at h')
  d13 := fun h h' => H.d13 (by rwa [getD_set_ne _ (by decide)] at h) (by rwa [getD_set_ne _ (by decide)] at h')
  d23 := fun h h' => H.d23 (by rwa [getD_set_ne _ (by decide)] at h) (by rwa [getD_set_ne _ (by decide)] at h')
  f0 := fun h => by rw [getD_set_ne _ (by decide)]; exact H.f0 (by rwa [getD_set_ne _ (by decide)] at h)
  f1 := fun h => by rw [getD_set_ne _ (by decide)]; exact H.f1 (by rwa [getD_set_ne _ (by decide)] at h)
  f2 := fun h => by rw [getD_set_ne _ (by decide)]; exact H.f2 (by rwa [getD_set_ne _ (by decide)] at h)
  f3 := fun h => by rw [getD_set_ne _ (by decide)]; exact H.f3 (by rwa [getD_set_ne _ (by decide)] at h)
  e0 := fun h => (H.e0 (by rwa [getD_set_ne _ (by decide)] at h))
  e1 := fun h => (H.e1 (by rwa [getD_set_ne _ (by decide)] at h))
  e2 := fun h => (H.e2 (by rwa [getD_set_ne _ (by decide)] at h))
  e3 := fun h => (H.e3 (by rwa [getD_set_ne _ (by decide)] at h))
theorem IvA.o7 {x : World} {a b c t : Tm} {L : Array Bool} {s9 s10 s11 s12 s15 s16 s17 s18 s19 s20 s21 s22 : Value} {w : World} (H : IvA x a b c t L s9 s10 s11 s12 s15 s16 s17 s18 s19 s20 s21 s22 w) {w' : World} (hg : Gr w w') : IvA x a b c t (L.setIfInBounds 7 true) s9 s10 s11 s12 s15 s16 s17 s18 s19 s20 s21 (ptV (ptO t)) w' where
  z := by rw [Array.size_setIfInBounds]; exact H.z
  bel := belG H.bel hg
  c0 := fun h => H.c0 (by rwa [getD_set_ne _ (by decide)] at h)
  c1 := fun h => H.c1 (by rwa [getD_set_ne _ (by decide)] at h)
  c2 := fun h => H.c2 (by rwa [getD_set_ne _ (by decide)] at h)
  c3 := fun h => H.c3 (by rwa [getD_set_ne _ (by decide)] at h)
  c4 := fun h => H.c4 (by rwa [getD_set_ne _ (by decide)] at h)
  c5 := fun h => H.c5 (by rwa [getD_set_ne _ (by decide)] at h)
  c6 := fun h => H.c6 (by rwa [getD_set_ne _ (by decide)] at h)
  c7 := fun _ => rfl
  b0 := fun h => ((H.b0 (by rwa [getD_set_ne _ (by decide)] at h))).imp fun _ k => k.gr hg
  b1 := fun h => ((H.b1 (by rwa [getD_set_ne _ (by decide)] at h))).imp fun _ k => k.gr hg
  b2 := fun h => ((H.b2 (by rwa [getD_set_ne _ (by decide)] at h))).imp fun _ k => k.gr hg
  b3 := fun h => ((H.b3 (by rwa [getD_set_ne _ (by decide)] at h))).imp fun _ k => k.gr hg
  d01 := fun h h' => H.d01 (by rwa [getD_set_ne _ (by decide)] at h) (by rwa [getD_set_ne _ (by decide)] at h')
  d02 := fun h h' => H.d02 (by rwa [getD_set_ne _ (by decide)] at h) (by rwa [getD_set_ne _ (by decide)] at h')
  d03 := fun h h' => H.d03 (by rwa [getD_set_ne _ (by decide)] at h) (by rwa [getD_set_ne _ (by decide)] at h')
  d12 := fun h h' => H.d12 (by rwa [getD_set_ne _ (by decide)] at h) (by rwa [getD_set_ne _ (by decide)] at h')
  d13 := fun h h' => H.d13 (by rwa [getD_set_ne _ (by decide)] at h) (by rwa [getD_set_ne _ (by decide)] at h')
  d23 := fun h h' => H.d23 (by rwa [getD_set_ne _ (by decide)] at h) (by rwa [getD_set_ne _ (by decide)] at h')
  f0 := fun h => by rw [getD_set_ne _ (by decide)]; exact H.f0 (by rwa [getD_set_ne _ (by decide)] at h)
  f1 := fun h => by rw [getD_set_ne _ (by decide)]; exact H.f1 (by rwa [getD_set_ne _ (by decide)] at h)
  f2 := fun h => by rw [getD_set_ne _ (by decide)]; exact H.f2 (by rwa [getD_set_ne _ (by decide)] at h)
  f3 := fun h => by rw [getD_set_ne _ (by decide)]; exact H.f3 (by rwa [getD_set_ne _ (by decide)] at h)
  e0 := fun h => ((H.e0 (by rwa [getD_set_ne _ (by decide)] at h))).gr hg
  e1 := fun h => ((H.e1 (by rwa [getD_set_ne _ (by decide)] at h))).gr hg
  e2 := fun h => ((H.e2 (by rwa [getD_set_ne _ (by decide)] at h))).gr hg
  e3 := fun h => ((H.e3 (by rwa [getD_set_ne _ (by decide)] at h))).gr hg
theorem IvA.o8 {x : World} {a b c t : Tm} {L : Array Bool} {s9 s10 s11 s12 s15 s16 s17 s18 s19 s20 s21 s22 : Value} {w : World} (H : IvA x a b c t L s9 s10 s11 s12 s15 s16 s17 s18 s19 s20 s21 s22 w) (hN : L.getD 8 true = false) : IvA x a b c t (L.setIfInBounds 8 true) (.pointer (some ⟨w.heap.size, 0, none⟩)) s10 s11 s12 s15 s16 s17 s18 s19 s20 s21 s22 (w.alloc (.cells #[.int .i64 0, .int .i64 0] 108)) where
  z := by rw [Array.size_setIfInBounds]; exact H.z
  bel := belA1 H.bel _
  c0 := fun h => H.c0 (by rwa [getD_set_ne _ (by decide)] at h)
  c1 := fun h => H.c1 (by rwa [getD_set_ne _ (by decide)] at h)
  c2 := fun h => H.c2 (by rwa [getD_set_ne _ (by decide)] at h)
  c3 := fun h => H.c3 (by rwa [getD_set_ne _ (by decide)] at h)
  c4 := fun h => H.c4 (by rwa [getD_set_ne _ (by decide)] at h)
  c5 := fun h => H.c5 (by rwa [getD_set_ne _ (by decide)] at h)
  c6 := fun h => H.c6 (by rwa [getD_set_ne _ (by decide)] at h)
  c7 := fun h => H.c7 (by rwa [getD_set_ne _ (by decide)] at h)
  b0 := fun _ => ⟨(0, 0), Bo.new H.bel.size⟩
  b1 := fun h => ((H.b1 (by rwa [getD_set_ne _ (by decide)] at h))).imp fun _ k => k.gr (gr1 _ _)
  b2 := fun h => ((H.b2 (by rwa [getD_set_ne _ (by decide)] at h))).imp fun _ k => k.gr (gr1 _ _)
  b3 := fun h => ((H.b3 (by rwa [getD_set_ne _ (by decide)] at h))).imp fun _ k => k.gr (gr1 _ _)
  d01 := fun h h' => (fun e => by obtain ⟨p, k⟩ := H.b1 (by rwa [getD_set_ne _ (by decide)] at h'); exact k.ne_new e.symm)
  d02 := fun h h' => (fun e => by obtain ⟨p, k⟩ := H.b2 (by rwa [getD_set_ne _ (by decide)] at h'); exact k.ne_new e.symm)
  d03 := fun h h' => (fun e => by obtain ⟨p, k⟩ := H.b3 (by rwa [getD_set_ne _ (by decide)] at h'); exact k.ne_new e.symm)
  d12 := fun h h' => H.d12 (by rwa [getD_set_ne _ (by decide)] at h) (by rwa [getD_set_ne _ (by decide)] at h')
  d13 := fun h h' => H.d13 (by rwa [getD_set_ne _ (by decide)] at h) (by rwa [getD_set_ne _ (by decide)] at h')
  d23 := fun h h' => H.d23 (by rwa [getD_set_ne _ (by decide)] at h) (by rwa [getD_set_ne _ (by decide)] at h')
  f0 := fun _ => getD_set_same H.z (by decide)
  f1 := fun h => by rw [getD_set_ne _ (by decide)]; exact H.f1 (by rwa [getD_set_ne _ (by decide)] at h)
  f2 := fun h => by rw [getD_set_ne _ (by decide)]; exact H.f2 (by rwa [getD_set_ne _ (by decide)] at h)
  f3 := fun h => by rw [getD_set_ne _ (by decide)]; exact H.f3 (by rwa [getD_set_ne _ (by decide)] at h)
  e0 := fun h => (notl hN (H.f0 (by rwa [getD_set_ne _ (by decide)] at h))).elim
  e1 := fun h => ((H.e1 (by rwa [getD_set_ne _ (by decide)] at h))).gr (gr1 _ _)
  e2 := fun h => ((H.e2 (by rwa [getD_set_ne _ (by decide)] at h))).gr (gr1 _ _)
  e3 := fun h => ((H.e3 (by rwa [getD_set_ne _ (by decide)] at h))).gr (gr1 _ _)
theorem IvA.o9 {x : World} {a b c t : Tm} {L : Array Bool} {s9 s10 s11 s12 s15 s16 s17 s18 s19 s20 s21 s22 : Value} {w : World} (H : IvA x a b c t L s9 s10 s11 s12 s15 s16 s17 s18 s19 s20 s21 s22 w) (hN : L.getD 9 true = false) : IvA x a b c t (L.setIfInBounds 9 true) s9 (.pointer (some ⟨w.heap.size, 0, none⟩)) s11 s12 s15 s16 s17 s18 s19 s20 s21 s22 (w.alloc (.cells #[.int .i64 0, .int .i64 0] 108)) where
  z := by rw [Array.size_setIfInBounds]; exact H.z
  bel := belA1 H.bel _
  c0 := fun h => H.c0 (by rwa [getD_set_ne _ (by decide)] at h)
  c1 := fun h => H.c1 (by rwa [getD_set_ne _ (by decide)] at h)
  c2 := fun h => H.c2 (by rwa [getD_set_ne _ (by decide)] at h)
  c3 := fun h => H.c3 (by rwa [getD_set_ne _ (by decide)] at h)
  c4 := fun h => H.c4 (by rwa [getD_set_ne _ (by decide)] at h)
  c5 := fun h => H.c5 (by rwa [getD_set_ne _ (by decide)] at h)
  c6 := fun h => H.c6 (by rwa [getD_set_ne _ (by decide)] at h)
  c7 := fun h => H.c7 (by rwa [getD_set_ne _ (by decide)] at h)
  b0 := fun h => ((H.b0 (by rwa [getD_set_ne _ (by decide)] at h))).imp fun _ k => k.gr (gr1 _ _)
  b1 := fun _ => ⟨(0, 0), Bo.new H.bel.size⟩
  b2 := fun h => ((H.b2 (by rwa [getD_set_ne _ (by decide)] at h))).imp fun _ k => k.gr (gr1 _ _)
  b3 := fun h => ((H.b3 (by rwa [getD_set_ne _ (by decide)] at h))).imp fun _ k => k.gr (gr1 _ _)
  d01 := fun h h' => (fun e => by obtain ⟨p, k⟩ := H.b0 (by rwa [getD_set_ne _ (by decide)] at h); exact k.ne_new e)
  d02 := fun h h' => H.d02 (by rwa [getD_set_ne _ (by decide)] at h) (by rwa [getD_set_ne _ (by decide)] at h')
  d03 := fun h h' => H.d03 (by rwa [getD_set_ne _ (by decide)] at h) (by rwa [getD_set_ne _ (by decide)] at h')
  d12 := fun h h' => (fun e => by obtain ⟨p, k⟩ := H.b2 (by rwa [getD_set_ne _ (by decide)] at h'); exact k.ne_new e.symm)
  d13 := fun h h' => (fun e => by obtain ⟨p, k⟩ := H.b3 (by rwa [getD_set_ne _ (by decide)] at h'); exact k.ne_new e.symm)
  d23 := fun h h' => H.d23 (by rwa [getD_set_ne _ (by decide)] at h) (by rwa [getD_set_ne _ (by decide)] at h')
  f0 := fun h => by rw [getD_set_ne _ (by decide)]; exact H.f0 (by rwa [getD_set_ne _ (by decide)] at h)
  f1 := fun _ => getD_set_same H.z (by decide)
  f2 := fun h => by rw [getD_set_ne _ (by decide)]; exact H.f2 (by rwa [getD_set_ne _ (by decide)] at h)
  f3 := fun h => by rw [getD_set_ne _ (by decide)]; exact H.f3 (by rwa [getD_set_ne _ (by decide)] at h)
  e0 := fun h => ((H.e0 (by rwa [getD_set_ne _ (by decide)] at h))).gr (gr1 _ _)
  e1 := fun h => (notl hN (H.f1 (by rwa [getD_set_ne _ (by decide)] at h))).elim
  e2 := fun h => ((H.e2 (by rwa [getD_set_ne _ (by decide)] at h))).gr (gr1 _ _)
  e3 := fun h => ((H.e3 (by rwa [getD_set_ne _ (by decide)] at h))).gr (gr1 _ _)
theorem IvA.o10 {x : World} {a b c t : Tm} {L : Array Bool} {s9 s10 s11 s12 s15 s16 s17 s18 s19 s20 s21 s22 : Value} {w : World} (H : IvA x a b c t L s9 s10 s11 s12 s15 s16 s17 s18 s19 s20 s21 s22 w) (hN : L.getD 10 true = false) : IvA x a b c t (L.setIfInBounds 10 true) s9 s10 (.pointer (some ⟨w.heap.size, 0, none⟩)) s12 s15 s16 s17 s18 s19 s20 s21 s22 (w.alloc (.cells #[.int .i64 0, .int .i64 0] 108)) where
  z := by rw [Array.size_setIfInBounds]; exact H.z
  bel := belA1 H.bel _
  c0 := fun h => H.c0 (by rwa [getD_set_ne _ (by decide)] at h)
  c1 := fun h => H.c1 (by rwa [getD_set_ne _ (by decide)] at h)
  c2 := fun h => H.c2 (by rwa [getD_set_ne _ (by decide)] at h)
  c3 := fun h => H.c3 (by rwa [getD_set_ne _ (by decide)] at h)
  c4 := fun h => H.c4 (by rwa [getD_set_ne _ (by decide)] at h)
  c5 := fun h => H.c5 (by rwa [getD_set_ne _ (by decide)] at h)
  c6 := fun h => H.c6 (by rwa [getD_set_ne _ (by decide)] at h)
  c7 := fun h => H.c7 (by rwa [getD_set_ne _ (by decide)] at h)
  b0 := fun h => ((H.b0 (by rwa [getD_set_ne _ (by decide)] at h))).imp fun _ k => k.gr (gr1 _ _)
  b1 := fun h => ((H.b1 (by rwa [getD_set_ne _ (by decide)] at h))).imp fun _ k => k.gr (gr1 _ _)
  b2 := fun _ => ⟨(0, 0), Bo.new H.bel.size⟩
  b3 := fun h => ((H.b3 (by rwa [getD_set_ne _ (by decide)] at h))).imp fun _ k => k.gr (gr1 _ _)
  d01 := fun h h' => H.d01 (by rwa [getD_set_ne _ (by decide)] at h) (by rwa [getD_set_ne _ (by decide)] at h')
  d02 := fun h h' => (fun e => by obtain ⟨p, k⟩ := H.b0 (by rwa [getD_set_ne _ (by decide)] at h); exact k.ne_new e)
  d03 := fun h h' => H.d03 (by rwa [getD_set_ne _ (by decide)] at h) (by rwa [getD_set_ne _ (by decide)] at h')
  d12 := fun h h' => (fun e => by obtain ⟨p, k⟩ := H.b1 (by rwa [getD_set_ne _ (by decide)] at h); exact k.ne_new e)
  d13 := fun h h' => H.d13 (by rwa [getD_set_ne _ (by decide)] at h) (by rwa [getD_set_ne _ (by decide)] at h')
  d23 := fun h h' => (fun e => by obtain ⟨p, k⟩ := H.b3 (by rwa [getD_set_ne _ (by decide)] at h'); exact k.ne_new e.symm)
  f0 := fun h => by rw [getD_set_ne _ (by decide)]; exact H.f0 (by rwa [getD_set_ne _ (by decide)] at h)
  f1 := fun h => by rw [getD_set_ne _ (by decide)]; exact H.f1 (by rwa [getD_set_ne _ (by decide)] at h)
  f2 := fun _ => getD_set_same H.z (by decide)
  f3 := fun h => by rw [getD_set_ne _ (by decide)]; exact H.f3 (by rwa [getD_set_ne _ (by decide)] at h)
  e0 := fun h => ((H.e0 (by rwa [getD_set_ne _ (by decide)] at h))).gr (gr1 _ _)
  e1 := fun h => ((H.e1 (by rwa [getD_set_ne _ (by decide)] at h))).gr (gr1 _ _)
  e2 := fun h => (notl hN (H.f2 (by rwa [getD_set_ne _ (by decide)] at h))).elim
  e3 := fun h => ((H.e3 (by rwa [getD_set_ne _ (by decide)] at h))).gr (gr1 _ _)
theorem IvA.o11 {x : World} {a b c t : Tm} {L : Array Bool} {s9 s10 s11 s12 s15 s16 s17 s18 s19 s20 s21 s22 : Value} {w : World} (H : IvA x a b c t L s9 s10 s11 s12 s15 s16 s17 s18 s19 s20 s21 s22 w) (hN : L.getD 11 true = false) : IvA x a b c t (L.setIfInBounds 11 true) s9 s10 s11 (.pointer (some ⟨w.heap.size, 0, none⟩)) s15 s16 s17 s18 s19 s20 s21 s22 (w.alloc (.cells #[.int .i64 0, .int .i64 0] 108)) where
  z := by rw [Array.size_setIfInBounds]; exact H.z
  bel := belA1 H.bel _
  c0 := fun h => H.c0 (by rwa [getD_set_ne _ (by decide)] at h)
  c1 := fun h => H.c1 (by rwa [getD_set_ne _ (by decide)] at h)
  c2 := fun h => H.c2 (by rwa [getD_set_ne _ (by decide)] at h)
  c3 := fun h => H.c3 (by rwa [getD_set_ne _ (by decide)] at h)
  c4 := fun h => H.c4 (by rwa [getD_set_ne _ (by decide)] at h)
  c5 := fun h => H.c5 (by rwa [getD_set_ne _ (by decide)] at h)
  c6 := fun h => H.c6 (by rwa [getD_set_ne _ (by decide)] at h)
  c7 := fun h => H.c7 (by rwa [getD_set_ne _ (by decide)] at h)
  b0 := fun h => ((H.b0 (by rwa [getD_set_ne _ (by decide)] at h))).imp fun _ k => k.gr (gr1 _ _)
  b1 := fun h => ((H.b1 (by rwa [getD_set_ne _ (by decide)] at h))).imp fun _ k => k.gr (gr1 _ _)
  b2 := fun h => ((H.b2 (by rwa [getD_set_ne _ (by decide)] at h))).imp fun _ k => k.gr (gr1 _ _)
  b3 := fun _ => ⟨(0, 0), Bo.new H.bel.size⟩
  d01 := fun h h' => H.d01 (by rwa [getD_set_ne _ (by decide)] at h) (by rwa [getD_set_ne _ (by decide)] at h')
  d02 := fun h h' => H.d02 (by rwa [getD_set_ne _ (by decide)] at h) (by rwa [getD_set_ne _ (by decide)] at h')
  d03 := fun h h' => (fun e => by obtain ⟨p, k⟩ := H.b0 (by rwa [getD_set_ne _ (by decide)] at h); exact k.ne_new e)
  d12 := fun h h' => H.d12 (by rwa [getD_set_ne _ (by decide)] at h) (by rwa [getD_set_ne _ (by decide)] at h')
  d13 := fun h h' => (fun e => by obtain ⟨p, k⟩ := H.b1 (by rwa [getD_set_ne _ (by decide)] at h); exact k.ne_new e)
  d23 := fun h h' => (fun e => by obtain ⟨p, k⟩ := H.b2 (by rwa [getD_set_ne _ (by decide)] at h); exact k.ne_new e)
  f0 := fun h => by rw [getD_set_ne _ (by decide)]; exact H.f0 (by rwa [getD_set_ne _ (by decide)] at h)
  f1 := fun h => by rw [getD_set_ne _ (by decide)]; exact H.f1 (by rwa [getD_set_ne _ (by decide)] at h)
  f2 := fun h => by rw [getD_set_ne _ (by decide)]; exact H.f2 (by rwa [getD_set_ne _ (by decide)] at h)
  f3 := fun _ => getD_set_same H.z (by decide)
  e0 := fun h => ((H.e0 (by rwa [getD_set_ne _ (by decide)] at h))).gr (gr1 _ _)
  e1 := fun h => ((H.e1 (by rwa [getD_set_ne _ (by decide)] at h))).gr (gr1 _ _)
  e2 := fun h => ((H.e2 (by rwa [getD_set_ne _ (by decide)] at h))).gr (gr1 _ _)
  e3 := fun h => (notl hN (H.f3 (by rwa [getD_set_ne _ (by decide)] at h))).elim
theorem IvA.o12 {x : World} {a b c t : Tm} {L : Array Bool} {s9 s10 s11 s12 s15 s16 s17 s18 s19 s20 s21 s22 : Value} {w : World} (H : IvA x a b c t L s9 s10 s11 s12 s15 s16 s17 s18 s19 s20 s21 s22 w) (l0 : L.getD 8 false = true) (l1 : L.getD 9 false = true) (l2 : L.getD 10 false = true) (l3 : L.getD 11 false = true) {g : Nat} (hs : s9 = .pointer (some ⟨g, 0, none⟩)) {p : Pt} (hb : Bo x.heap.size w s9 p) (hge : x.heap.size ≤ g) : IvA x a b c t (L.setIfInBounds 12 true) s9 s10 s11 s12 s15 s16 s17 s18 s19 s20 s21 s22 ((w.setCell ⟨g, 0, none⟩ (.int .i64 (ptO a).1)).setCell ⟨g, 1, none⟩ (.int .i64 (ptO a).2)) where
  z := by rw [Array.size_setIfInBounds]; exact H.z
  bel := belS (belS H.bel hge _ _) hge _ _
  c0 := fun h => H.c0 (by rwa [getD_set_ne _ (by decide)] at h)
  c1 := fun h => H.c1 (by rwa [getD_set_ne _ (by decide)] at h)
  c2 := fun h => H.c2 (by rwa [getD_set_ne _ (by decide)] at h)
  c3 := fun h => H.c3 (by rwa [getD_set_ne _ (by decide)] at h)
  c4 := fun h => H.c4 (by rwa [getD_set_ne _ (by decide)] at h)
  c5 := fun h => H.c5 (by rwa [getD_set_ne _ (by decide)] at h)
  c6 := fun h => H.c6 (by rwa [getD_set_ne _ (by decide)] at h)
  c7 := fun h => H.c7 (by rwa [getD_set_ne _ (by decide)] at h)
  b0 := fun _ => ⟨_, by rw [hs]; exact Bo.put (hs ▸ hb) (ptO a)⟩
  b1 := fun h => (H.b1 (by rwa [getD_set_ne _ (by decide)] at h)).imp fun _ k => k.off (fun e => H.d01 l0 l1 (by rw [hs, e]))
  b2 := fun h => (H.b2 (by rwa [getD_set_ne _ (by decide)] at h)).imp fun _ k => k.off (fun e => H.d02 l0 l2 (by rw [hs, e]))
  b3 := fun h => (H.b3 (by rwa [getD_set_ne _ (by decide)] at h)).imp fun _ k => k.off (fun e => H.d03 l0 l3 (by rw [hs, e]))
  d01 := fun h h' => H.d01 (by rwa [getD_set_ne _ (by decide)] at h) (by rwa [getD_set_ne _ (by decide)] at h')
  d02 := fun h h' => H.d02 (by rwa [getD_set_ne _ (by decide)] at h) (by rwa [getD_set_ne _ (by decide)] at h')
  d03 := fun h h' => H.d03 (by rwa [getD_set_ne _ (by decide)] at h) (by rwa [getD_set_ne _ (by decide)] at h')
  d12 := fun h h' => H.d12 (by rwa [getD_set_ne _ (by decide)] at h) (by rwa [getD_set_ne _ (by decide)] at h')
  d13 := fun h h' => H.d13 (by rwa [getD_set_ne _ (by decide)] at h) (by rwa [getD_set_ne _ (by decide)] at h')
  d23 := fun h h' => H.d23 (by rwa [getD_set_ne _ (by decide)] at h) (by rwa [getD_set_ne _ (by decide)] at h')
  f0 := fun _ => by rw [getD_set_ne _ (by decide)]; exact l0
  f1 := fun h => by rw [getD_set_ne _ (by decide)]; exact H.f1 (by rwa [getD_set_ne _ (by decide)] at h)
  f2 := fun h => by rw [getD_set_ne _ (by decide)]; exact H.f2 (by rwa [getD_set_ne _ (by decide)] at h)
  f3 := fun h => by rw [getD_set_ne _ (by decide)]; exact H.f3 (by rwa [getD_set_ne _ (by decide)] at h)
  e0 := fun _ => by rw [hs]; exact Bo.put (hs ▸ hb) _
  e1 := fun h => (H.e1 (by rwa [getD_set_ne _ (by decide)] at h)).off (fun e => H.d01 l0 l1 (by rw [hs, e]))
  e2 := fun h => (H.e2 (by rwa [getD_set_ne _ (by decide)] at h)).off (fun e => H.d02 l0 l2 (by rw [hs, e]))
  e3 := fun h => (H.e3 (by rwa [getD_set_ne _ (by decide)] at h)).off (fun e => H.d03 l0 l3 (by rw [hs, e]))
theorem IvA.o13 {x : World} {a b c t : Tm} {L : Array Bool} {s9 s10 s11 s12 s15 s16 s17 s18 s19 s20 s21 s22 : Value} {w : World} (H : IvA x a b c t L s9 s10 s11 s12 s15 s16 s17 s18 s19 s20 s21 s22 w) (l0 : L.getD 8 false = true) (l1 : L.getD 9 false = true) (l2 : L.getD 10 false = true) (l3 : L.getD 11 false = true) {g : Nat} (hs : s10 = .pointer (some ⟨g, 0, none⟩)) {p : Pt} (hb : Bo x.heap.size w s10 p) (hge : x.heap.size ≤ g) : IvA x a b c t (L.setIfInBounds 13 true) s9 s10 s11 s12 s15 s16 s17 s18 s19 s20 s21 s22 ((w.setCell ⟨g, 0, none⟩ (.int .i64 (ptO b).1)).setCell ⟨g, 1, none⟩ (.int .i64 (ptO b).2)) where
  z := by rw [Array.size_setIfInBounds]; exact H.z
  bel := belS (belS H.bel hge _ _) hge _ _
  c0 := fun h => H.c0 (by rwa [getD_set_ne _ (by decide)] at h)
  c1 := fun h => H.c1 (by rwa [getD_set_ne _ (by decide)] at h)
  c2 := fun h => H.c2 (by rwa [getD_set_ne _ (by decide)] at h)
  c3 := fun h => H.c3 (by rwa [getD_set_ne _ (by decide)] at h)
  c4 := fun h => H.c4 (by rwa [getD_set_ne _ (by decide)] at h)
  c5 := fun h => H.c5 (by rwa [getD_set_ne _ (by decide)] at h)
  c6 := fun h => H.c6 (by rwa [getD_set_ne _ (by decide)] at h)
  c7 := fun h => H.c7 (by rwa [getD_set_ne _ (by decide)] at h)
  b0 := fun h => (H.b0 (by rwa [getD_set_ne _ (by decide)] at h)).imp fun _ k => k.off (fun e => H.d01 l0 l1 (by rw [hs, e]))
  b1 := fun _ => ⟨_, by rw [hs]; exact Bo.put (hs ▸ hb) (ptO b)⟩
  b2 := fun h => (H.b2 (by rwa [getD_set_ne _ (by decide)] at h)).imp fun _ k => k.off (fun e => H.d12 l1 l2 (by rw [hs, e]))
  b3 := fun h => (H.b3 (by rwa [getD_set_ne _ (by decide)] at h)).imp fun _ k => k.off (fun e => H.d13 l1 l3 (by rw [hs, e]))
  d01 := fun h h' => H.d01 (by rwa [getD_set_ne _ (by decide)] at h) (by rwa [getD_set_ne _ (by decide)] at h')
  d02 := fun h h' => H.d02 (by rwa [getD_set_ne _ (by decide)] at h) (by rwa [getD_set_ne _ (by decide)] at h')
  d03 := fun h h' => H.d03 (by rwa [getD_set_ne _ (by decide)] at h) (by rwa [getD_set_ne _ (by decide)] at h')
  d12 := fun h h' => H.d12 (by rwa [getD_set_ne _ (by decide)] at h) (by rwa [getD_set_ne _ (by decide)] at h')
  d13 := fun h h' => H.d13 (by rwa [getD_set_ne _ (by decide)] at h) (by rwa [getD_set_ne _ (by decide)] at h')
  d23 := fun h h' => H.d23 (by rwa [getD_set_ne _ (by decide)] at h) (by rwa [getD_set_ne _ (by decide)] at h')
  f0 := fun h => by rw [getD_set_ne _ (by decide)]; exact H.f0 (by rwa [getD_set_ne _ (by decide)] at h)
  f1 := fun _ => by rw [getD_set_ne _ (by decide)]; exact l1
  f2 := fun h => by rw [getD_set_ne _ (by decide)]; exact H.f2 (by rwa [getD_set_ne _ (by decide)] at h)
  f3 := fun h => by rw [getD_set_ne _ (by decide)]; exact H.f3 (by rwa [getD_set_ne _ (by decide)] at h)
  e0 := fun h => (H.e0 (by rwa [getD_set_ne _ (by decide)] at h)).off (fun e => H.d01 l0 l1 (by rw [hs, e]))
  e1 := fun _ => by rw [hs]; exact Bo.put (hs ▸ hb) _
  e2 := fun h => (H.e2 (by rwa [getD_set_ne _ (by decide)] at h)).off (fun e => H.d12 l1 l2 (by rw [hs, e]))
  e3 := fun h => (H.e3 (by rwa [getD_set_ne _ (by decide)] at h)).off (fun e => H.d13 l1 l3 (by rw [hs, e]))
theorem IvA.o14 {x : World} {a b c t : Tm} {L : Array Bool} {s9 s10 s11 s12 s15 s16 s17 s18 s19 s20 s21 s22 : Value} {w : World} (H : IvA x a b c t L s9 s10 s11 s12 s15 s16 s17 s18 s19 s20 s21 s22 w) (l0 : L.getD 8 false = true) (l1 : L.getD 9 false = true) (l2 : L.getD 10 false = true) (l3 : L.getD 11 false = true) {g : Nat} (hs : s11 = .pointer (some ⟨g, 0, none⟩)) {p : Pt} (hb : Bo x.heap.size w s11 p) (hge : x.heap.size ≤ g) : IvA x a b c t (L.setIfInBounds 14 true) s9 s10 s11 s12 s15 s16 s17 s18 s19 s20 s21 s22 ((w.setCell ⟨g, 0, none⟩ (.int .i64 (ptO c).1)).setCell ⟨g, 1, none⟩ (.int .i64 (ptO c).2)) where
  z := by rw [Array.size_setIfInBounds]; exact H.z
  bel := belS (belS H.bel hge _ _) hge _ _
  c0 := fun h => H.c0 (by rwa [getD_set_ne _ (by decide)] at h)
  c1 := fun h => H.c1 (by rwa [getD_set_ne _ (by decide)] at h)
  c2 := fun h => H.c2 (by rwa [getD_set_ne _ (by decide)] at h)
  c3 := fun h => H.c3 (by rwa [getD_set_ne _ (by decide)] at h)
  c4 := fun h => H.c4 (by rwa [getD_set_ne _ (by decide)] at h)
  c5 := fun h => H.c5 (by rwa [getD_set_ne _ (by decide)] at h)
  c6 := fun h => H.c6 (by rwa [getD_set_ne _ (by decide)] at h)
  c7 := fun h => H.c7 (by rwa [getD_set_ne _ (by decide)] at h)
  b0 := fun h => (H.b0 (by rwa [getD_set_ne _ (by decide)] at h)).imp fun _ k => k.off (fun e => H.d02 l0 l2 (by rw [hs, e]))
  b1 := fun h => (H.b1 (by rwa [getD_set_ne _ (by decide)] at h)).imp fun _ k => k.off (fun e => H.d12 l1 l2 (by rw [hs, e]))
  b2 := fun _ => ⟨_, by rw [hs]; exact Bo.put (hs ▸ hb) (ptO c)⟩
  b3 := fun h => (H.b3 (by rwa [getD_set_ne _ (by decide)] at h)).imp fun _ k => k.off (fun e => H.d23 l2 l3 (by rw [hs, e]))
  d01 := fun h h' => H.d01 (by rwa [getD_set_ne _ (by decide)] at h) (by rwa [getD_set_ne _ (by decide)] at h')
  d02 := fun h h' => H.d02 (by rwa [getD_set_ne _ (by decide)] at h) (by rwa [getD_set_ne _ (by decide)] at h')
  d03 := fun h h' => H.d03 (by rwa [getD_set_ne _ (by decide)] at h) (by rwa [getD_set_ne _ (by decide)] at h')
  d12 := fun h h' => H.d12 (by rwa [getD_set_ne _ (by decide)] at h) (by rwa [getD_set_ne _ (by decide)] at h')
  d13 := fun h h' => H.d13 (by rwa [getD_set_ne _ (by decide)] at h) (by rwa [getD_set_ne _ (by decide)] at h')
  d23 := fun h h' => H.d23 (by rwa [getD_set_ne _ (by decide)] at h) (by rwa [getD_set_ne _ (by decide)] at h')
  f0 := fun h => by rw [getD_set_ne _ (by decide)]; exact H.f0 (by rwa [getD_set_ne _ (by decide)] at h)
  f1 := fun h => by rw [getD_set_ne _ (by decide)]; exact H.f1 (by rwa [getD_set_ne _ (by decide)] at h)
  f2 := fun _ => by rw [getD_set_ne _ (by decide)]; exact l2
  f3 := fun h => by rw [getD_set_ne _ (by decide)]; exact H.f3 (by rwa [getD_set_ne _ (by decide)] at h)
  e0 := fun h => (H.e0 (by rwa [getD_set_ne _ (by decide)] at h)).off (fun e => H.d02 l0 l2 (by rw [hs, e]))
  e1 := fun h => (H.e1 (by rwa [getD_set_ne _ (by decide)] at h)).off (fun e => H.d12 l1 l2 (by rw [hs, e]))
  e2 := fun _ => by rw [hs]; exact Bo.put (hs ▸ hb) _
  e3 := fun h => (H.e3 (by rwa [getD_set_ne _ (by decide)] at h)).off (fun e => H.d23 l2 l3 (by rw [hs, e]))
theorem IvA.o15 {x : World} {a b c t : Tm} {L : Array Bool} {s9 s10 s11 s12 s15 s16 s17 s18 s19 s20 s21 s22 : Value} {w : World} (H : IvA x a b c t L s9 s10 s11 s12 s15 s16 s17 s18 s19 s20 s21 s22 w) (l0 : L.getD 8 false = true) (l1 : L.getD 9 false = true) (l2 : L.getD 10 false = true) (l3 : L.getD 11 false = true) {g : Nat} (hs : s12 = .pointer (some ⟨g, 0, none⟩)) {p : Pt} (hb : Bo x.heap.size w s12 p) (hge : x.heap.size ≤ g) : IvA x a b c t (L.setIfInBounds 15 true) s9 s10 s11 s12 s15 s16 s17 s18 s19 s20 s21 s22 ((w.setCell ⟨g, 0, none⟩ (.int .i64 (ptO t).1)).setCell ⟨g, 1, none⟩ (.int .i64 (ptO t).2)) where
  z := by rw [Array.size_setIfInBounds]; exact H.z
  bel := belS (belS H.bel hge _ _) hge _ _
  c0 := fun h => H.c0 (by rwa [getD_set_ne _ (by decide)] at h)
  c1 := fun h => H.c1 (by rwa [getD_set_ne _ (by decide)] at h)
  c2 := fun h => H.c2 (by rwa [getD_set_ne _ (by decide)] at h)
  c3 := fun h => H.c3 (by rwa [getD_set_ne _ (by decide)] at h)
  c4 := fun h => H.c4 (by rwa [getD_set_ne _ (by decide)] at h)
  c5 := fun h => H.c5 (by rwa [getD_set_ne _ (by decide)] at h)
  c6 := fun h => H.c6 (by rwa [getD_set_ne _ (by decide)] at h)
  c7 := fun h => H.c7 (by rwa [getD_set_ne _ (by decide)] at h)
  b0 := fun h => (H.b0 (by rwa [getD_set_ne _ (by decide)] at h)).imp fun _ k => k.off (fun e => H.d03 l0 l3 (by rw [hs, e]))
  b1 := fun h => (H.b1 (by rwa [getD_set_ne _ (by decide)] at h)).imp fun _ k => k.off (fun e => H.d13 l1 l3 (by rw [hs, e]))
  b2 := fun h => (H.b2 (by rwa [getD_set_ne _ (by decide)] at h)).imp fun _ k => k.off (fun e => H.d23 l2 l3 (by rw [hs, e]))
  b3 := fun _ => ⟨_, by rw [hs]; exact Bo.put (hs ▸ hb) (ptO t)⟩
  d01 := fun h h' => H.d01 (by rwa [getD_set_ne _ (by decide)] at h) (by rwa [getD_set_ne _ (by decide)] at h')
  d02 := fun h h' => H.d02 (by rwa [getD_set_ne _ (by decide)] at h) (by rwa [getD_set_ne _ (by decide)] at h')
  d03 := fun h h' => H.d03 (by rwa [getD_set_ne _ (by decide)] at h) (by rwa [getD_set_ne _ (by decide)] at h')
  d12 := fun h h' => H.d12 (by rwa [getD_set_ne _ (by decide)] at h) (by rwa [getD_set_ne _ (by decide)] at h')
  d13 := fun h h' => H.d13 (by rwa [getD_set_ne _ (by decide)] at h) (by rwa [getD_set_ne _ (by decide)] at h')
  d23 := fun h h' => H.d23 (by rwa [getD_set_ne _ (by decide)] at h) (by rwa [getD_set_ne _ (by decide)] at h')
  f0 := fun h => by rw [getD_set_ne _ (by decide)]; exact H.f0 (by rwa [getD_set_ne _ (by decide)] at h)
  f1 := fun h => by rw [getD_set_ne _ (by decide)]; exact H.f1 (by rwa [getD_set_ne _ (by decide)] at h)
  f2 := fun h => by rw [getD_set_ne _ (by decide)]; exact H.f2 (by rwa [getD_set_ne _ (by decide)] at h)
  f3 := fun _ => by rw [getD_set_ne _ (by decide)]; exact l3
  e0 := fun h => (H.e0 (by rwa [getD_set_ne _ (by decide)] at h)).off (fun e => H.d03 l0 l3 (by rw [hs, e]))
  e1 := fun h => (H.e1 (by rwa [getD_set_ne _ (by decide)] at h)).off (fun e => H.d13 l1 l3 (by rw [hs, e]))
  e2 := fun h => (H.e2 (by rwa [getD_set_ne _ (by decide)] at h)).off (fun e => H.d23 l2 l3 (by rw [hs, e]))
  e3 := fun _ => by rw [hs]; exact Bo.put (hs ▸ hb) _
end Go.Proofs.Ythegkifhbgopoaa
/-
  The model of cells, second part: one cell, the order of lists, equal lists.
  Conditions: the terms are valid; the slices read as the lists that are named.
-/
namespace Go.Proofs.Ythegkifhbgopoaa
set_option linter.unusedSimpArgs false
set_option linter.unusedVariables false
open Go.ChangeShapes Go.WideShapes Go.ChangeAt Go.RowKit
open Go.Sort (grow)

/-- Three terms in a row, a term's block, and nothing that lay there when x was has changed. -/
abbrev S15 (x : World) (g i j k h : Nat) (a b c t : Tm) (w : World) : Prop :=
  (w.cell? ⟨g, i, none⟩ = some (.int .i64 a.1) ∧ w.cell? ⟨g, i + 1, none⟩ = some (.int .i64 a.2.1) ∧ w.cell? ⟨g, i + 2, none⟩ = some (.int .i64 a.2.2)) ∧
  (w.cell? ⟨g, j, none⟩ = some (.int .i64 b.1) ∧ w.cell? ⟨g, j + 1, none⟩ = some (.int .i64 b.2.1) ∧ w.cell? ⟨g, j + 2, none⟩ = some (.int .i64 b.2.2)) ∧
  (w.cell? ⟨g, k, none⟩ = some (.int .i64 c.1) ∧ w.cell? ⟨g, k + 1, none⟩ = some (.int .i64 c.2.1) ∧ w.cell? ⟨g, k + 2, none⟩ = some (.int .i64 c.2.2)) ∧
  (w.cell? ⟨h, 0, none⟩ = some (.int .i64 t.1) ∧ w.cell? ⟨h, 1, none⟩ = some (.int .i64 t.2.1) ∧ w.cell? ⟨h, 2, none⟩ = some (.int .i64 t.2.2)) ∧ Below x.heap.size x w
theorem S15.mk {x w : World} {g i j k h : Nat} {a b c t : Tm} (H : S15 x g i j k h a b c t x) (hb : Below x.heap.size x w) : S15 x g i j k h a b c t w :=
  ⟨X3.below H.1 hb, X3.below H.2.1 hb, X3.below H.2.2.1 hb, T3.below H.2.2.2.1 hb, hb⟩
theorem S15.bel {x w : World} {g i j k h : Nat} {a b c t : Tm} (H : S15 x g i j k h a b c t w) : Below x.heap.size x w := H.2.2.2.2
/-- The cell of a plane; none if a term is below it. -/
def ceX (p : Tm × Tm) (l : List Tm) : List Int := if okP p l l.length then zeL p l l.length else []
theorem lx_next {zs ys : List Int} {k : Nat} (h1 : k < zs.length) (h2 : k < ys.length) (h : gd zs k = gd ys k) (h0 : lxL zs ys = lxL (zs.drop k) (ys.drop k)) : lxL zs ys = lxL (zs.drop (k + 1)) (ys.drop (k + 1)) := by
  rw [h0, List.drop_eq_getElem_cons h1, List.drop_eq_getElem_cons h2]
  exact lxL_same (by rw [gd_eq zs k h1, gd_eq ys k h2] at h; exact h)
theorem lx_diff {zs ys : List Int} {k : Nat} (h1 : k < zs.length) (h2 : k < ys.length) (h : gd zs k ≠ gd ys k) (h0 : lxL zs ys = lxL (zs.drop k) (ys.drop k)) : lxL zs ys = decide (gd zs k < gd ys k) := by
  rw [h0, List.drop_eq_getElem_cons h1, List.drop_eq_getElem_cons h2, gd_eq zs k h1, gd_eq ys k h2]
  exact lxL_diff (by rw [gd_eq zs k h1, gd_eq ys k h2] at h; exact h)
theorem lx_short {zs ys : List Int} {k : Nat} (h1 : k < zs.length) (h2 : ys.length ≤ k) (h0 : lxL zs ys = lxL (zs.drop k) (ys.drop k)) : lxL zs ys = false := by
  rw [h0, List.drop_eq_getElem_cons h1, List.drop_eq_nil_of_le h2]; rfl
theorem lx_end {zs ys : List Int} (h0 : lxL zs ys = lxL (zs.drop zs.length) (ys.drop zs.length)) : lxL zs ys = decide (zs.length < ys.length) := by
  rw [h0, List.drop_eq_nil_of_le (Nat.le_refl _)]
  by_cases h : zs.length < ys.length
  · rw [List.drop_eq_getElem_cons h]; simp [lxL, h]
  · rw [List.drop_eq_nil_of_le (by omega)]; simp [lxL, h]
end Go.Proofs.Ythegkifhbgopoaa
