/-
  The model of cells, first part: points of terms, heights, one cell.
  Condition: the terms are valid.
-/
import Derived.Test.YtcfplfjllnojoaaGreatCeM
import Derived.Test.YtcfplfjllnojoaaGreatTm
import Derived.Test.YtcfplfjllnojoaaGreatPg
import Derived.Test.YtcfplfjllnojoaaGreatRow
import Derived.Test.YtcfplfjllnojoaaGreatShift
import Derived.RegionTactic
namespace Go.Proofs.YtcfplfjllnojoaaGreat
set_option linter.unusedSimpArgs false
set_option linter.unusedVariables false
open Go.ChangeShapes Go.WideShapes Go.ChangeAt Go.RowKit
open Go.Sort (grow)

theorem belG {x w w' : World} (h : Below x.heap.size x w) (hg : Gr w w') : Below x.heap.size x w' := bel2 h hg.below
theorem ptO_sm {t : Tm} (h : plT t = true) : Sm 1000 (ptO t) := by
  have := plT_parts h
  unfold Sm ptO
  dsimp only
  omega
/-- A term in a row, behind draws and new blocks. -/
theorem X3.gr {w w' : World} {g i : Nat} {t : Tm} (h : X3 w g i t) (hg : Gr w w') : X3 w' g i t := h.below hg.below
theorem T3.gr {w w' : World} {g : Nat} {t : Tm} (h : T3 w g t) (hg : Gr w w') : T3 w' g t := h.below hg.below
theorem cePoint_any (t : Tm) (w : World) : Calls Tryz.prog 37 #[tmV t] w fun e w' => e = .returned (ptV (ptO t)) ∧ Gr w w' := by
  obtain ⟨a, b, c⟩ := t
  go_enter Tryz.func37, Tryz.ntmps37
  go_wp2
  refine bodyPost_ret (P2.result (t := (a, b)) (g := w.heap.size + 1) ?_ rfl rfl) rfl ⟨rfl, gr2 _ _ _⟩
  have := P2.new (w.alloc (.cells #[.int .i64 a, .int .i64 b, .int .i64 c] 42)) (a, b) 64
  rwa [World.size_alloc] at this
theorem l1Sign_any (n : Int) (w : World) : Calls Tryz.prog 89 #[.int .i64 n] w fun e w' => e = .returned (.int .i64 (sgI n)) ∧ w = w' := by
  by_cases h1 : 0 < n
  · go_enter Tryz.func89, Tryz.ntmps89
    go_wp2
    go_ret
    exact ⟨ret_i64 (by unfold sgI; rw [if_neg (by omega), if_pos h1]), rfl⟩
  · by_cases h2 : n < 0
    · go_enter Tryz.func89, Tryz.ntmps89
      go_wp2
      go_ret
      exact ⟨ret_i64 (by unfold sgI; rw [if_pos (by omega)]), rfl⟩
    · go_enter Tryz.func89, Tryz.ntmps89
      go_wp2
      go_ret
      exact ⟨ret_i64 (by unfold sgI; rw [if_neg (by omega), if_neg (by omega)]), rfl⟩
end Go.Proofs.YtcfplfjllnojoaaGreat
/-
  The model's height of a term above the plane of three others: what the call returns.
  Condition: the terms are valid.
-/
namespace Go.Proofs.YtcfplfjllnojoaaGreat
set_option linter.unusedSimpArgs false
set_option linter.unusedVariables false
open Go.ChangeShapes Go.WideShapes Go.ChangeAt Go.RowKit
open Go.Sort (grow)

/-- Four terms' blocks, and nothing that lay there when x was has changed. -/
abbrev S12 (x : World) (g : Nat) (a b c t : Tm) (w : World) : Prop :=
  (w.cell? ⟨g, 0, none⟩ = some (.int .i64 a.1) ∧ w.cell? ⟨g, 1, none⟩ = some (.int .i64 a.2.1) ∧ w.cell? ⟨g, 2, none⟩ = some (.int .i64 a.2.2)) ∧
  (w.cell? ⟨g + 1, 0, none⟩ = some (.int .i64 b.1) ∧ w.cell? ⟨g + 1, 1, none⟩ = some (.int .i64 b.2.1) ∧ w.cell? ⟨g + 1, 2, none⟩ = some (.int .i64 b.2.2)) ∧
  (w.cell? ⟨g + 2, 0, none⟩ = some (.int .i64 c.1) ∧ w.cell? ⟨g + 2, 1, none⟩ = some (.int .i64 c.2.1) ∧ w.cell? ⟨g + 2, 2, none⟩ = some (.int .i64 c.2.2)) ∧
  (w.cell? ⟨g + 3, 0, none⟩ = some (.int .i64 t.1) ∧ w.cell? ⟨g + 3, 1, none⟩ = some (.int .i64 t.2.1) ∧ w.cell? ⟨g + 3, 2, none⟩ = some (.int .i64 t.2.2)) ∧ Below x.heap.size x w
theorem S12.mk {x w : World} {g : Nat} {a b c t : Tm} (h : S12 x g a b c t x) (hb : Below x.heap.size x w) : S12 x g a b c t w :=
  ⟨T3.below h.1 hb, T3.below h.2.1 hb, T3.below h.2.2.1 hb, T3.below h.2.2.2.1 hb, hb⟩
theorem S12.bel {x w : World} {g : Nat} {a b c t : Tm} (h : S12 x g a b c t w) : Below x.heap.size x w := h.2.2.2.2
theorem S12.new (w : World) (a b c t : Tm) : S12 ((((w.alloc (.cells #[.int .i64 a.1, .int .i64 a.2.1, .int .i64 a.2.2] 42)).alloc (.cells #[.int .i64 b.1, .int .i64 b.2.1, .int .i64 b.2.2] 42)).alloc (.cells #[.int .i64 c.1, .int .i64 c.2.1, .int .i64 c.2.2] 42)).alloc (.cells #[.int .i64 t.1, .int .i64 t.2.1, .int .i64 t.2.2] 42)) w.heap.size a b c t
    ((((w.alloc (.cells #[.int .i64 a.1, .int .i64 a.2.1, .int .i64 a.2.2] 42)).alloc (.cells #[.int .i64 b.1, .int .i64 b.2.1, .int .i64 b.2.2] 42)).alloc (.cells #[.int .i64 c.1, .int .i64 c.2.1, .int .i64 c.2.2] 42)).alloc (.cells #[.int .i64 t.1, .int .i64 t.2.1, .int .i64 t.2.2] 42)) := by
  have bA : ∀ (W : World) (o : Obj), Below W.heap.size W (W.alloc o) := fun W o => (Below.refl _ _).alloc (Nat.le_refl _) o
  have h1 := T3.new w a 42
  generalize hw1 : w.alloc (.cells #[.int .i64 a.1, .int .i64 a.2.1, .int .i64 a.2.2] 42) = w1 at h1 ⊢
  have s1 : w1.heap.size = w.heap.size + 1 := by rw [← hw1]; simp
  have h2 := T3.new w1 b 42
  have h1' := T3.below h1 (bA w1 (.cells #[.int .i64 b.1, .int .i64 b.2.1, .int .i64 b.2.2] 42))
  generalize hw2 : w1.alloc (.cells #[.int .i64 b.1, .int .i64 b.2.1, .int .i64 b.2.2] 42) = w2 at h2 h1' ⊢
  have s2 : w2.heap.size = w.heap.size + 2 := by rw [← hw2]; simp [s1]
  have h3 := T3.new w2 c 42
  have h2' := T3.below h2 (bA w2 (.cells #[.int .i64 c.1, .int .i64 c.2.1, .int .i64 c.2.2] 42))
  have h1'' := T3.below h1' (bA w2 (.cells #[.int .i64 c.1, .int .i64 c.2.1, .int .i64 c.2.2] 42))
  generalize hw3 : w2.alloc (.cells #[.int .i64 c.1, .int .i64 c.2.1, .int .i64 c.2.2] 42) = w3 at h3 h2' h1'' ⊢
  have s3 : w3.heap.size = w.heap.size + 3 := by rw [← hw3]; simp [s2]
  have h4 := T3.new w3 t 42
  rw [s1] at h2'; rw [s2] at h3; rw [s3] at h4
  exact ⟨T3.below h1'' (bA w3 _), T3.below h2' (bA w3 _), T3.below h3 (bA w3 _), h4, Below.refl _ _⟩
/-- A new block of a point: from block N on, it holds p. -/
def Bo (N : Nat) (w : World) (v : Value) (p : Pt) : Prop := ∃ g, v = .pointer (some ⟨g, 0, none⟩) ∧ N ≤ g ∧ w.heap[g]? = some (.cells #[.int .i64 p.1, .int .i64 p.2] 64 (0, 0))
theorem Bo.gr {N : Nat} {w w' : World} {v : Value} {p : Pt} (h : Bo N w v p) (hg : Gr w w') : Bo N w' v p := by
  obtain ⟨g, h1, h2, h3⟩ := h
  exact ⟨g, h1, h2, (hg.below.block g (Array.getElem?_eq_some_iff.1 h3).1).trans h3⟩
theorem Bo.new {N : Nat} {w : World} (h : N ≤ w.heap.size) : Bo N (w.alloc (.cells #[.int .i64 0, .int .i64 0] 64)) (.pointer (some ⟨w.heap.size, 0, none⟩)) (0, 0) :=
  ⟨_, rfl, h, heap_alloc_new w _⟩
theorem Bo.ne_new {N : Nat} {w : World} {v : Value} {p : Pt} (h : Bo N w v p) : v ≠ .pointer (some ⟨w.heap.size, 0, none⟩) := by
  obtain ⟨g, rfl, h2, h3⟩ := h
  intro e
  have h4 := (Array.getElem?_eq_some_iff.1 h3).1
  simp only [Value.pointer.injEq, Option.some.injEq, Addr.mk.injEq] at e
  omega
theorem Bo.at {N g : Nat} {w : World} {p : Pt} (h : Bo N w (.pointer (some ⟨g, 0, none⟩)) p) : N ≤ g ∧ w.heap[g]? = some (.cells #[.int .i64 p.1, .int .i64 p.2] 64 (0, 0)) := by
  obtain ⟨g', h1, h2, h3⟩ := h
  simp only [Value.pointer.injEq, Option.some.injEq, Addr.mk.injEq] at h1
  obtain ⟨rfl, -⟩ := h1
  exact ⟨h2, h3⟩
theorem Bo.cells {N g : Nat} {w : World} {p : Pt} (h : Bo N w (.pointer (some ⟨g, 0, none⟩)) p) : (w.cell? ⟨g, 0, none⟩ = some (.int .i64 p.1) ∧ w.cell? ⟨g, 1, none⟩ = some (.int .i64 p.2)) ∧ w.frozen? ⟨g, 0, none⟩ = false ∧ w.frozen? ⟨g, 1, none⟩ = false := by
  have h3 := h.at.2
  refine ⟨⟨?_, ?_⟩, ?_, ?_⟩ <;> simp [World.cell?, World.frozen?, h3]
theorem Bo.put {N g : Nat} {w : World} {p : Pt} (h : Bo N w (.pointer (some ⟨g, 0, none⟩)) p) (q : Pt) : Bo N ((w.setCell ⟨g, 0, none⟩ (.int .i64 q.1)).setCell ⟨g, 1, none⟩ (.int .i64 q.2)) (.pointer (some ⟨g, 0, none⟩)) q := by
  obtain ⟨h1, h2⟩ := h.at
  exact ⟨g, rfl, h1, heap_set_at _ (heap_set_at _ h2)⟩
theorem Bo.off {N g : Nat} {w : World} {v : Value} {p : Pt} (h : Bo N w v p) (hne : v ≠ .pointer (some ⟨g, 0, none⟩)) {u u' : Value} : Bo N ((w.setCell ⟨g, 0, none⟩ u).setCell ⟨g, 1, none⟩ u') v p := by
  obtain ⟨g', rfl, h2, h3⟩ := h
  have hn : g' ≠ g := fun e => hne (by rw [e])
  exact ⟨g', rfl, h2, ((Below.heap_setCell _ _ _ g' hn).trans (Below.heap_setCell _ _ _ g' hn)).trans h3⟩
abbrev actA (a b c t : Tm) (N : Nat) (s9 s10 s11 s12 s15 s16 s17 s18 s19 s20 s21 s22 : Value) : Act := { tmps := #[tmV a, tmV b, tmV c, tmV t, .pointer (some ⟨N, 0, none⟩), .pointer (some ⟨N + 1, 0, none⟩), .pointer (some ⟨N + 1 + 1, 0, none⟩), .pointer (some ⟨N + 1 + 1 + 1, 0, none⟩), .int .i64 0, s9, s10, s11, s12, undef, undef, s15, s16, s17, s18, s19, s20, s21, s22, undef, undef, undef, undef, undef, undef, undef, undef, undef, undef, undef, undef, undef, undef, undef, undef, undef, undef, undef, undef, undef, undef, undef, undef, undef, undef, undef, undef, undef, undef, undef, undef, undef, undef, undef, undef], defers := [] }
/-- What is known when some operations are done. -/
structure IvA (x : World) (a b c t : Tm) (L : Array Bool) (s9 s10 s11 s12 s15 s16 s17 s18 s19 s20 s21 s22 : Value) (w : World) : Prop where
  z : L.size = 16
  bel : Below x.heap.size x w
  c0 : (L.getD 0 false = true) → s15 = tmV a
  c1 : (L.getD 1 false = true) → s16 = ptV (ptO a)
  c2 : (L.getD 2 false = true) → s17 = tmV b
  c3 : (L.getD 3 false = true) → s18 = ptV (ptO b)
  c4 : (L.getD 4 false = true) → s19 = tmV c
  c5 : (L.getD 5 false = true) → s20 = ptV (ptO c)
  c6 : (L.getD 6 false = true) → s21 = tmV t
  c7 : (L.getD 7 false = true) → s22 = ptV (ptO t)
  b0 : (L.getD 8 false = true) → ∃ p, Bo x.heap.size w s9 p
  b1 : (L.getD 9 false = true) → ∃ p, Bo x.heap.size w s10 p
  b2 : (L.getD 10 false = true) → ∃ p, Bo x.heap.size w s11 p
  b3 : (L.getD 11 false = true) → ∃ p, Bo x.heap.size w s12 p
  d01 : (L.getD 8 false = true) → (L.getD 9 false = true) → s9 ≠ s10
  d02 : (L.getD 8 false = true) → (L.getD 10 false = true) → s9 ≠ s11
  d03 : (L.getD 8 false = true) → (L.getD 11 false = true) → s9 ≠ s12
  d12 : (L.getD 9 false = true) → (L.getD 10 false = true) → s10 ≠ s11
  d13 : (L.getD 9 false = true) → (L.getD 11 false = true) → s10 ≠ s12
  d23 : (L.getD 10 false = true) → (L.getD 11 false = true) → s11 ≠ s12
  f0 : (L.getD 12 false = true) → (L.getD 8 false = true)
  f1 : (L.getD 13 false = true) → (L.getD 9 false = true)
  f2 : (L.getD 14 false = true) → (L.getD 10 false = true)
  f3 : (L.getD 15 false = true) → (L.getD 11 false = true)
  e0 : (L.getD 12 false = true) → Bo x.heap.size w s9 (ptO a)
  e1 : (L.getD 13 false = true) → Bo x.heap.size w s10 (ptO b)
  e2 : (L.getD 14 false = true) → Bo x.heap.size w s11 (ptO c)
  e3 : (L.getD 15 false = true) → Bo x.heap.size w s12 (ptO t)
theorem IvA.start (x : World) (a b c t : Tm) : IvA x a b c t (Array.replicate 16 false) undef undef undef undef undef undef undef undef undef undef undef undef x.drew where
  z := rfl
  bel := belD (Below.refl _ _)
  c0 := fun h => by simp at h
  c1 := fun h => by simp at h
  c2 := fun h => by simp at h
  c3 := fun h => by simp at h
  c4 := fun h => by simp at h
  c5 := fun h => by simp at h
  c6 := fun h => by simp at h
  c7 := fun h => by simp at h
  b0 := fun h => by simp at h
  b1 := fun h => by simp at h
  b2 := fun h => by simp at h
  b3 := fun h => by simp at h
  d01 := fun h => by simp at h
  d02 := fun h => by simp at h
  d03 := fun h => by simp at h
  d12 := fun h => by simp at h
  d13 := fun h => by simp at h
  d23 := fun h => by simp at h
  f0 := fun h => by simp at h
  f1 := fun h => by simp at h
  f2 := fun h => by simp at h
  f3 := fun h => by simp at h
  e0 := fun h => by simp at h
  e1 := fun h => by simp at h
  e2 := fun h => by simp at h
  e3 := fun h => by simp at h
theorem IvA.o0 {x : World} {a b c t : Tm} {L : Array Bool} {s9 s10 s11 s12 s15 s16 s17 s18 s19 s20 s21 s22 : Value} {w : World} (H : IvA x a b c t L s9 s10 s11 s12 s15 s16 s17 s18 s19 s20 s21 s22 w)  : IvA x a b c t (L.setIfInBounds 0 true) s9 s10 s11 s12 (tmV a) s16 s17 s18 s19 s20 s21 s22 w where
  z := by rw [Array.size_setIfInBounds]; exact H.z
  bel := H.bel
  c0 := fun _ => rfl
  c1 := fun h => H.c1 (by rwa [getD_set_ne _ (by decide)] at h)
  c2 := fun h => H.c2 (by rwa [getD_set_ne _ (by decide)] at h)
  c3 := fun h => H.c3 (by rwa [getD_set_ne _ (by decide)] at h)
  c4 := fun h => H.c4 (by rwa [getD_set_ne _ (by decide)] at h)
  c5 := fun h => H.c5 (by rwa [getD_set_ne _ (by decide)] at h)
  c6 := fun h => H.c6 (by rwa [getD_set_ne _ (by decide)] at h)
  c7 := fun h => H.c7 (by rwa [getD_set_ne _ (by decide)] at h)
  b0 := fun h => (H.b0 (by rwa [getD_set_ne _ (by decide)] at h))
  b1 := fun h => (H.b1 (by rwa [getD_set_ne _ (by decide)] at h))
  b2 := fun h => (H.b2 (by rwa [getD_set_ne _ (by decide)] at h))
  b3 := fun h => (H.b3 (by rwa [getD_set_ne _ (by decide)] at h))
  d01 := fun h h' => H.d01 (by rwa [getD_set_ne _ (by decide)] at h) (by rwa [getD_set_ne _ (by decide)] at h')
  d02 := fun h h' => H.d02 (by rwa [getD_set_ne _ (by decide)] at h) (by rwa [getD_set_ne _ (by decide)] at h')
  d03 := fun h h' => H.d03 (by rwa [getD_set_ne _ (by decide)] at h) (by rwa [getD_set_ne _ (by decide)] at h')
  d12 := fun h h' => H.d12 (by rwa [getD_set_ne _ (by decide)] at h) (by rwa [getD_set_ne _ (by decide)] at h')
  d13 := fun h h' => H.d13 (by rwa [getD_set_ne _ (by decide)] at h) (by rwa [getD_set_ne _ (by decide)] at h')
  d23 := fun h h' => H.d23 (by rwa [getD_set_ne _ (by decide)] at h) (by rwa [getD_set_ne _ (by decide)] at h')
  f0 := fun h => by rw [getD_set_ne _ (by decide)]; exact H.f0 (by rwa [getD_set_ne _ (by decide)] at h)
  f1 := fun h => by rw [getD_set_ne _ (by decide)]; exact H.f1 (by rwa [getD_set_ne _ (by decide)] at h)
  f2 := fun h => by rw [getD_set_ne _ (by decide)]; exact H.f2 (by rwa [getD_set_ne _ (by decide)] at h)
  f3 := fun h => by rw [getD_set_ne _ (by decide)]; exact H.f3 (by rwa [getD_set_ne _ (by decide)] at h)
  e0 := fun h => (H.e0 (by rwa [getD_set_ne _ (by decide)] at h))
  e1 := fun h => (H.e1 (by rwa [getD_set_ne _ (by decide)] at h))
  e2 := fun h => (H.e2 (by rwa [getD_set_ne _ (by decide)] at h))
  e3 := fun h => (H.e3 (by rwa [getD_set_ne _ (by decide)] at h))
theorem IvA.o1 {x : World} {a b c t : Tm} {L : Array Bool} {s9 s10 s11 s12 s15 s16 s17 s18 s19 s20 s21 s22 : Value} {w : World} (H : IvA x a b c t L s9 s10 s11 s12 s15 s16 s17 s18 s19 s20 s21 s22 w) {w' : World} (hg : Gr w w') : IvA x a b c t (L.setIfInBounds 1 true) s9 s10 s11 s12 s15 (ptV (ptO a)) s17 s18 s19 s20 s21 s22 w' where
  z := by rw [Array.size_setIfInBounds]; exact H.z
  bel := belG H.bel hg
  c0 := fun h => H.c0 (by rwa [getD_set_ne _ (by decide)] at h)
  c1 := fun _ => rfl
  c2 := fun h => H.c2 (by rwa [getD_set_ne _ (by decide)] at h)
  c3 := fun h => H.c3 (by rwa [getD_set_ne _ (by decide)] at h)
  c4 := fun h => H.c4 (by rwa [getD_set_ne _ (by decide)] at h)
  c5 := fun h => H.c5 (by rwa [getD_set_ne _ (by decide)] at h)
  c6 := fun h => H.c6 (by rwa [getD_set_ne _ (by decide)] at h)
  c7 := fun h => H.c7 (by rwa [getD_set_ne _ (by decide)] at h)
  b0 := fun h => ((H.b0 (by rwa [getD_set_ne _ (by decide)] at h))).imp fun _ k => k.gr hg
  b1 := fun h => ((H.b1 (by rwa [getD_set_ne _ (by decide)] at h))).imp fun _ k => k.gr hg
  b2 := fun h => ((H.b2 (by rwa [getD_set_ne _ (by decide)] at h))).imp fun _ k => k.gr hg
  b3 := fun h => ((H.b3 (by rwa [getD_set_ne _ (by decide)] at h))).imp fun _ k => k.gr hg
  d01 := fun h h' => H.d01 (by rwa [getD_set_ne _ (by decide)] at h) (by rwa [getD_set_ne _ (by decide)] at h')
  d02 := fun h h' => H.d02 (by rwa [getD_set_ne _ (by decide)] at h) (by rwa [getD_set_ne _ (by decide)] at h')
  d03 := fun h h' => H.d03 (by rwa [getD_set_ne _ (by decide)] at h) (by rwa [getD_set_ne _ (by decide)] at h')
  d12 := fun h h' => H.d12 (by rwa [getD_set_ne _ (by decide)] at h) (by rwa [getD_set_ne _ (by decide)] at h')
  d13 := fun h h' => H.d13 (by rwa [getD_set_ne _ (by decide)] at h) (by rwa [getD_set_ne _ (by decide)] at h')
  d23 := fun h h' => H.d23 (by rwa [getD_set_ne _ (by decide)] at h) (by rwa [getD_set_ne _ (by decide)] at h')
  f0 := fun h => by rw [getD_set_ne _ (by decide)]; exact H.f0 (by rwa [getD_set_ne _ (by decide)] at h)
  f1 := fun h => by rw [getD_set_ne _ (by decide)]; exact H.f1 (by rwa [getD_set_ne _ (by decide)] at h)
  f2 := fun h => by rw [getD_set_ne _ (by decide)]; exact H.f2 (by rwa [getD_set_ne _ (by decide)] at h)
  f3 := fun h => by rw [getD_set_ne _ (by decide)]; exact H.f3 (by rwa [getD_set_ne _ (by decide)] at h)
  e0 := fun h => ((H.e0 (by rwa [getD_set_ne _ (by decide)] at h))).gr hg
  e1 := fun h => ((H.e1 (by rwa [getD_set_ne _ (by decide)] at h))).gr hg
  e2 := fun h => ((H.e2 (by rwa [getD_set_ne _ (by decide)] at h))).gr hg
  e3 := fun h => ((H.e3 (by rwa [getD_set_ne _ (by decide)] at h))).gr hg
theorem IvA.o2 {x : World} {a b c t : Tm} {L : Array Bool} {s9 s10 s11 s12 s15 s16 s17 s18 s19 s20 s21 s22 : Value} {w : World} (H : IvA x a b c t L s9 s10 s11 s12 s15 s16 s17 s18 s19 s20 s21 s22 w)  : IvA x a b c t (L.setIfInBounds 2 true) s9 s10 s11 s12 s15 s16 (tmV b) s18 s19 s20 s21 s22 w where
  z := by rw [Array.size_setIfInBounds]; exact H.z
  bel := H.bel
  c0 := fun h => H.c0 (by rwa [getD_set_ne _ (by decide)] at h)
  c1 := fun h => H.c1 (by rwa [getD_set_ne _ (by decide)] at h)
  c2 := fun _ => rfl
  c3 := fun h => H.c3 (by rwa [getD_set_ne _ (by decide)] at h)
  c4 := fun h => H.c4 (by rwa [getD_set_ne _ (by decide)] at h)
  c5 := fun h => H.c5 (by rwa [getD_set_ne _ (by decide)] at h)
  c6 := fun h => H.c6 (by rwa [getD_set_ne _ (by decide)] at h)
  c7 := fun h => H.c7 (by rwa [getD_set_ne _ (by decide)] at h)
  b0 := fun h => (H.b0 (by rwa [getD_set_ne _ (by decide)] at h))
  b1 := fun h => (H.b1 (by rwa [getD_set_ne _ (by decide)] at h))
  b2 := fun h => (H.b2 (by rwa [getD_set_ne _ (by decide)] at h))
  b3 := fun h => (H.b3 (by rwa [getD_set_ne _ (by decide)] at h))
  d01 := fun h h' => H.d01 (by rwa [getD_set_ne _ (by decide)] at h) (by rwa [getD_set_ne _ (by decide)] at h')
  d02 := fun h h' => H.d02 (by rwa [getD_set_ne _ (by decide)] at h) (by rwa [getD_set_ne _ (by decide)] at h')
  d03 := fun h h' => H.d03 (by rwa [getD_set_ne _ (by decide)] at h) (by rwa [getD_set_ne _ (by decide)] at h')
  d12 := fun h h' => H.d12 (by rwa [getD_set_ne _ (by decide)] at h) (by rwa [getD_set_ne _ (by decide)] at h')
  d13 := fun h h' => H.d13 (by rwa [getD_set_ne _ (by decide)] at h) (by rwa [getD_set_ne _ (by decide)] at h')
  d23 := fun h h' => H.d23 (by rwa [getD_set_ne _ (by decide)] at h) (by rwa [getD_set_ne _ (by decide)] at h')
  f0 := fun h => by rw [getD_set_ne _ (by decide)]; exact H.f0 (by rwa [getD_set_ne _ (by decide)] at h)
  f1 := fun h => by rw [getD_set_ne _ (by decide)]; exact H.f1 (by rwa [getD_set_ne _ (by decide)] at h)
  f2 := fun h => by rw [getD_set_ne _ (by decide)]; exact H.f2 (by rwa [getD_set_ne _ (by decide)] at h)
  f3 := fun h => by rw [getD_set_ne _ (by decide)]; exact H.f3 (by rwa [getD_set_ne _ (by decide)] at h)
  e0 := fun h => (H.e0 (by rwa [getD_set_ne _ (by decide)] at h))
  e1 := fun h => (H.e1 (by rwa [getD_set_ne _ (by decide)] at h))
  e2 := fun h => (H.e2 (by rwa [getD_set_ne _ (by decide)] at h))
  e3 := fun h => (H.e3 (by rwa [getD_set_ne _ (by decide)] at h))
theorem IvA.o3 {x : World} {a b c t : Tm} {L : Array Bool} {s9 s10 s11 s12 s15 s16 s17 s18 s19 s20 s21 s22 : Value} {w : World} (H : IvA x a b c t L s9 s10 s11 s12 s15 s16 s17 s18 s19 s20 s21 s22 w) {w' : World} (hg : Gr w w') : IvA x a b c t (L.setIfInBounds 3 true) s9 s10 s11 s12 s15 s16 s17 (ptV (ptO b)) s19 s20 s21 s22 w' where
  z := by rw [Array.size_setIfInBounds]; exact H.z
  bel := belG H.bel hg
  c0 := fun h => H.c0 (by rwa [getD_set_ne _ (by decide)] at h)
  c1 := fun h => H.c1 (by rwa [getD_set_ne _ (by decide)] at h)
  c2 := fun h => H.c2 (by rwa [getD_set_ne _ (by decide)] at h)
  c3 := fun _ => rfl
  c4 := fun h => H.c4 (by rwa [getD_set_ne _ (by decide)] at h)
  c5 := fun h => H.c5 (by rwa [getD_set_ne _ (by decide)] at h)
  c6 := fun h => H.c6 (by rwa [getD_set_ne _ (by decide)] at h)
  c7 := fun h => H.c7 (by rwa [getD_set_ne _ (by decide)] at h)
  b0 := fun h => ((H.b0 (by rwa [getD_set_ne _ (by decide)] at h))).imp fun _ k => k.gr hg
  b1 := fun h => ((H.b1 (by rwa [getD_set_ne _ (by decide)] at h))).imp fun _ k => k.gr hg
  b2 := fun h => ((H.b2 (by rwa [getD_set_ne _ (by decide)] at h))).imp fun _ k => k.gr hg
  b3 := fun h => ((H.b3 (by rwa [getD_set_ne _ (by decide)] at h))).imp fun _ k => k.gr hg
  d01 := fun h h' => H.d01 (by rwa [getD_set_ne _ (by decide)] at h) (by rwa [getD_set_ne _ (by decide)] at h')
  d02 := fun h h' => H.d02 (by rwa [getD_set_ne _ (by decide)] at h) (by rwa [getD_set_ne _ (by decide)] at h')
  d03 := fun h h' => H.d03 (by rwa [getD_set_ne _ (by decide)] at h) (by rwa [getD_set_ne _ (by decide)] at h')
  d12 := fun h h' => H.d12 (by rwa [getD_set_ne _ (by decide)] at h) (by rwa [getD_set_ne _ (by decide)] at h')
  d13 := fun h h' => H.d13 (by rwa [getD_set_ne _ (by decide)] at h) (by rwa [getD_set_ne _ (by decide)] at h')
  d23 := fun h h' => H.d23 (by rwa [getD_set_ne _ (by decide)] at h) (by rwa [getD_set_ne _ (by decide)] at h')
  f0 := fun h => by rw [getD_set_ne _ (by decide)]; exact H.f0 (by rwa [getD_set_ne _ (by decide)] at h)
  f1 := fun h => by rw [getD_set_ne _ (by decide)]; exact H.f1 (by rwa [getD_set_ne _ (by decide)] at h)
  f2 := fun h => by rw [getD_set_ne _ (by decide)]; exact H.f2 (by rwa [getD_set_ne _ (by decide)] at h)
  f3 := fun h => by rw [getD_set_ne _ (by decide)]; exact H.f3 (by rwa [getD_set_ne _ (by decide)] at h)
  e0 := fun h => ((H.e0 (by rwa [getD_set_ne _ (by decide)] at h))).gr hg
  e1 := fun h => ((H.e1 (by rwa [getD_set_ne _ (by decide)] at h))).gr hg
  e2 := fun h => ((H.e2 (by rwa [getD_set_ne _ (by decide)] at h))).gr hg
  e3 := fun h => ((H.e3 (by rwa [getD_set_ne _ (by decide)] at h))).gr hg
theorem IvA.o4 {x : World} {a b c t : Tm} {L : Array Bool} {s9 s10 s11 s12 s15 s16 s17 s18 s19 s20 s21 s22 : Value} {w : World} (H : IvA x a b c t L s9 s10 s11 s12 s15 s16 s17 s18 s19 s20 s21 s22 w)  : IvA x a b c t (L.setIfInBounds 4 true) s9 s10 s11 s12 s15 s16 s17 s18 (tmV c) s20 s21 s22 w where
  z := by rw [Array.size_setIfInBounds]; exact H.z
  bel := H.bel
  c0 := fun h => H.c0 (by rwa [getD_set_ne _ (by decide)] at h)
  c1 := fun h => H.c1 (by rwa [getD_set_ne _ (by decide)] at h)
  c2 := fun h => H.c2 (by rwa [getD_set_ne _ (by decide)] at h)
  c3 := fun h => H.c3 (by rwa [getD_set_ne _ (by decide)] at h)
  c4 := fun _ => rfl
  c5 := fun h => H.c5 (by rwa [getD_set_ne _ (by decide)] at h)
  c6 := fun h => H.c6 (by rwa [getD_set_ne _ (by decide)] at h)
  c7 := fun h => H.c7 (by rwa [getD_set_ne _ (by decide)] at h)
  b0 := fun h => (H.b0 (by rwa [getD_set_ne _ (by decide)] at h))
  b1 := fun h => (H.b1 (by rwa [getD_set_ne _ (by decide)] at h))
  b2 := fun h => (H.b2 (by rwa [getD_set_ne _ (by decide)] at h))
  b3 := fun h => (H.b3 (by rwa [getD_set_ne _ (by decide)] at h))
  d01 := fun h h' => H.d01 (by rwa [getD_set_ne _ (by decide)] at h) (by rwa [getD_set_ne _ (by decide)] at h')
  d02 := fun h h' => H.d02 (by rwa [getD_set_ne _ (by decide)] at h) (by rwa [getD_set_ne _ (by decide)] at h')
  d03 := fun h h' => H.d03 (by rwa [getD_set_ne _ (by decide)] at h) (by rwa [getD_set_ne _ (by decide)] at h')
  d12 := fun h h' => H.d12 (by rwa [getD_set_ne _ (by decide)] at h) (by rwa [getD_set_ne _ (by decide)] at h')
  d13 := fun h h' => H.d13 (by rwa [getD_set_ne _ (by decide)] at h) (by rwa [getD_set_ne _ (by decide)] at h')
  d23 := fun h h' => H.d23 (by rwa [getD_set_ne _ (by decide)] at h) (by rwa [getD_set_ne _ (by decide)] at h')
  f0 := fun h => by rw [getD_set_ne _ (by decide)]; exact H.f0 (by rwa [getD_set_ne _ (by decide)] at h)
  f1 := fun h => by rw [getD_set_ne _ (by decide)]; exact H.f1 (by rwa [getD_set_ne _ (by decide)] at h)
  f2 := fun h => by rw [getD_set_ne _ (by decide)]; exact H.f2 (by rwa [getD_set_ne _ (by decide)] at h)
  f3 := fun h => by rw [getD_set_ne _ (by decide)]; exact H.f3 (by rwa [getD_set_ne _ (by decide)] at h)
  e0 := fun h => (H.e0 (by rwa [getD_set_ne _ (by decide)] at h))
  e1 := fun h => (H.e1 (by rwa [getD_set_ne _ (by decide)] at h))
  e2 := fun h => (H.e2 (by rwa [getD_set_ne _ (by decide)] at h))
  e3 := fun h => (H.e3 (by rwa [getD_set_ne _ (by decide)] at h))
theorem IvA.o5 {x : World} {a b c t : Tm} {L : Array Bool} {s9 s10 s11 s12 s15 s16 s17 s18 s19 s20 s21 s22 : Value} {w : World} (H : IvA x a b c t L s9 s10 s11 s12 s15 s16 s17 s18 s19 s20 s21 s22 w) {w' : World} (hg : Gr w w') : IvA x a b c t (L.setIfInBounds 5 true) s9 s10 s11 s12 s15 s16 s17 s18 s19 (ptV (ptO c)) s21 s22 w' where
  z := by rw [Array.size_setIfInBounds]; exact H.z
  bel := belG H.bel hg
  c0 := fun h => H.c0 (by rwa [getD_set_ne _ (by decide)] at h)
  c1 := fun h => H.c1 (by rwa [getD_set_ne _ (by decide)] at h)
  c2 := fun h => H.c2 (by rwa [getD_set_ne _ (by decide)] at h)
  c3 := fun h => H.c3 (by rwa [getD_set_ne _ (by decide)] at h)
  c4 := fun h => H.c4 (by rwa [getD_set_ne _ (by decide)] at h)
  c5 := fun _ => rfl
  c6 := fun h => H.c6 (by rwa [getD_set_ne _ (by decide)] at h)
  c7 := fun h => H.c7 (by rwa [getD_set_ne _ (by decide)] at h)
  b0 := fun h => ((H.b0 (by rwa [getD_set_ne _ (by decide)] at h))).imp fun _ k => k.gr hg
  b1 := fun h => ((H.b1 (by rwa [getD_set_ne _ (by decide)] at h))).imp fun _ k => k.gr hg
  b2 := fun h => ((H.b2 (by rwa [getD_set_ne _ (by decide)] at h))).imp fun _ k => k.gr hg
  b3 := fun h => ((H.b3 (by rwa [getD_set_ne _ (by decide)] at h))).imp fun _ k => k.gr hg
  d01 := fun h h' => H.d01 (by rwa [getD_set_ne _ (by decide)] at h) (by rwa [getD_set_ne _ (by decide)] at h')
  d02 := fun h h' => H.d02 (by rwa [getD_set_ne _ (by decide)] at h) (by rwa [getD_set_ne _ (by decide)] at h')
  d03 := fun h h' => H.d03 (by rwa [getD_set_ne _ (by decide)] at h) (by rwa [getD_set_ne _ (by decide)] at h')
  d12 := fun h h' => H.d12 (by rwa [getD_set_ne _ (by decide)] at h) (by rwa [getD_set_ne _ (by decide)] at h')
  d13 := fun h h' => H.d13 (by rwa [getD_set_ne _ (by decide)] at h) (by rwa [getD_set_ne _ (by decide)] at h')
  d23 := fun h h' => H.d23 (by rwa [getD_set_ne _ (by decide)] at h) (by rwa [getD_set_ne _ (by decide)] at h')
  f0 := fun h => by rw [getD_set_ne _ (by decide)]; exact H.f0 (by rwa [getD_set_ne _ (by decide)] at h)
  f1 := fun h => by rw [getD_set_ne _ (by decide)]; exact H.f1 (by rwa [getD_set_ne _ (by decide)] at h)
  f2 := fun h => by rw [getD_set_ne _ (by decide)]; exact H.f2 (by rwa [getD_set_ne _ (by decide)] at h)
  f3 := fun h => by rw [getD_set_ne _ (by decide)]; exact H.f3 (by rwa [getD_set_ne _ (by decide)] at h)
  e0 := fun h => ((H.e0 (by rwa [getD_set_ne _ (by decide)] at h))).gr hg
  e1 := fun h => ((H.e1 (by rwa [getD_set_ne _ (by decide)] at h))).gr hg
  e2 := fun h => ((H.e2 (by rwa [getD_set_ne _ (by decide)] at h))).gr hg
  e3 := fun h => ((H.e3 (by rwa [getD_set_ne _ (by decide)] at h))).gr hg
theorem IvA.o6 {x : World} {a b c t : Tm} {L : Array Bool} {s9 s10 s11 s12 s15 s16 s17 s18 s19 s20 s21 s22 : Value} {w : World} (H : IvA x a b c t L s9 s10 s11 s12 s15 s16 s17 s18 s19 s20 s21 s22 w)  : IvA x a b c t (L.setIfInBounds 6 true) s9 s10 s11 s12 s15 s16 s17 s18 s19 s20 (tmV t) s22 w where
  z := by rw [Array.size_setIfInBounds]; exact H.z
  bel := H.bel
  c0 := fun h => H.c0 (by rwa [getD_set_ne _ (by decide)] at h)
  c1 := fun h => H.c1 (by rwa [getD_set_ne _ (by decide)] at h)
  c2 := fun h => H.c2 (by rwa [getD_set_ne _ (by decide)] at h)
  c3 := fun h => H.c3 (by rwa [getD_set_ne _ (by decide)] at h)
  c4 := fun h => H.c4 (by rwa [getD_set_ne _ (by decide)] at h)
  c5 := fun h => H.c5 (by rwa [getD_set_ne _ (by decide)] at h)
  c6 := fun _ => rfl
  c7 := fun h => H.c7 (by rwa [getD_set_ne _ (by decide)] at h)
  b0 := fun h => (H.b0 (by rwa [getD_set_ne _ (by decide)] at h))
  b1 := fun h => (H.b1 (by rwa [getD_set_ne _ (by decide)] at h))
  b2 := fun h => (H.b2 (by rwa [getD_set_ne _ (by decide)] at h))
  b3 := fun h => (H.b3 (by rwa [getD_set_ne _ (by decide)] at h))
  d01 := fun h h' => H.d01 (by rwa [getD_set_ne _ (by decide)] at h) (by rwa [getD_set_ne _ (by decide)] at h')
  d02 := fun h h' => H.d02 (by rwa [getD_set_ne _ (by decide)] at h) (by rwa [getD_set_ne _ (by decide)] at h')
  d03 := fun h h' => H.d03 (by rwa [getD_set_ne _ (by decide)] at h) (by rwa [getD_set_ne _ (by decide)] at h')
  d12 := fun h h' => H.d12 (by rwa [getD_set_ne _ (by decide)] at h) (by rwa [getD_set_ne _ (by decide)] at h')
  d13 := fun h h' => H.d13 (by rwa [getD_set_ne _ (by decide)] at h) (by rwa [getD_set_ne _ (by decide)] at h')
  d23 := fun h h' => H.d23 (by rwa [getD_set_ne _ (by decide)] at h) (by rwa [getD_set_ne _ (by decide)] at h')
  f0 := fun h => by rw [getD_set_ne _ (by decide)]; exact H.f0 (by rwa [getD_set_ne _ (by decide)] at h)
  f1 := fun h => by rw [getD_set_ne _ (by decide)]; exact H.f1 (by rwa [getD_set_ne _ (by decide)] at h)
  f2 := fun h => by rw [getD_set_ne _ (by decide)]; exact H.f2 (by rwa [getD_set_ne _ (by decide)] at h)
  f3 := fun h => by rw [getD_set_ne _ (by decide)]; exact H.f3 (by rwa [getD_set_ne _ (by decide)] at h)
  e0 := fun h => (H.e0 (by rwa [getD_set_ne _ (by decide)] at h))
  e1 := fun h => (H.e1 (by rwa [getD_set_ne _ (by decide)] at h))
  e2 := fun h => (H.e2 (by rwa [getD_set_ne _ (by decide)] at h))
  e3 := fun h => (H.e3 (by rwa [getD_set_ne _ (by decide)] at h))
theorem IvA.o7 {x : World} {a b c t : Tm} {L : Array Bool} {s9 s10 s11 s12 s15 s16 s17 s18 s19 s20 s21 s22 : Value} {w : World} (H : IvA x a b c t L s9 s10 s11 s12 s15 s16 s17 s18 s19 s20 s21 s22 w) {w' : World} (hg : Gr w w') : IvA x a b c t (L.setIfInBounds 7 true) s9 s10 s11 s12 s15 s16 s17 s18 s19 s20 s21 (ptV (ptO t)) w' where
  z := by rw [Array.size_setIfInBounds]; exact H.z
  bel := belG H.bel hg
  c0 := fun h => H.c0 (by rwa [getD_set_ne _ (by decide)] at h)
  c1 := fun h => H.c1 (by rwa [getD_set_ne _ (by decide)] at h)
  c2 := fun h => H.c2 (by rwa [getD_set_ne _ (by decide)] at h)
  c3 := fun h => H.c3 (by rwa [getD_set_ne _ (by decide)] at h)
  c4 := fun h => H.c4 (by rwa [getD_set_ne _ (by decide)] at h)
  c5 := fun h => H.c5 (by rwa [getD_set_ne _ (by decide)] at h)
  c6 := fun h => H.c6 (by rwa [getD_set_ne _ (by decide)] at h)
  c7 := fun _ => rfl
  b0 := fun h => ((H.b0 (by rwa [getD_set_ne _ (by decide)] at h))).imp fun _ k => k.gr hg
  b1 := fun h => ((H.b1 (by rwa [getD_set_ne _ (by decide)] at h))).imp fun _ k => k.gr hg
  b2 := fun h => ((H.b2 (by rwa [getD_set_ne _ (by decide)] at h))).imp fun _ k => k.gr hg
  b3 := fun h => ((H.b3 (by rwa [getD_set_ne _ (by decide)] at h))).imp fun _ k => k.gr hg
  d01 := fun h h' => H.d01 (by rwa [getD_set_ne _ (by decide)] at h) (by rwa [getD_set_ne _ (by decide)] at h')
  d02 := fun h h' => H.d02 (by rwa [getD_set_ne _ (by decide)] at h) (by rwa [getD_set_ne _ (by decide)] at h')
  d03 := fun h h' => H.d03 (by rwa [getD_set_ne _ (by decide)] at h) (by rwa [getD_set_ne _ (by decide)] at h')
  d12 := fun h h' => H.d12 (by rwa [getD_set_ne _ (by decide)] at h) (by rwa [getD_set_ne _ (by decide)] at h')
  d13 := fun h h' => H.d13 (by rwa [getD_set_ne _ (by decide)] at h) (by rwa [getD_set_ne _ (by decide)] at h')
  d23 := fun h h' => H.d23 (by rwa [getD_set_ne _ (by decide)] at h) (by rwa [getD_set_ne _ (by decide)] at h')
  f0 := fun h => by rw [getD_set_ne _ (by decide)]; exact H.f0 (by rwa [getD_set_ne _ (by decide)] at h)
  f1 := fun h => by rw [getD_set_ne _ (by decide)]; exact H.f1 (by rwa [getD_set_ne _ (by decide)] at h)
  f2 := fun h => by rw [getD_set_ne _ (by decide)]; exact H.f2 (by rwa [getD_set_ne _ (by decide)] at h)
  f3 := fun h => by rw [getD_set_ne _ (by decide)]; exact H.f3 (by rwa [getD_set_ne _ (by decide)] at h)
  e0 := fun h => ((H.e0 (by rwa [getD_set_ne _ (by decide)] at h))).gr hg
  e1 := fun h => ((H.e1 (by rwa [getD_set_ne _ (by decide)] at h))).gr hg
  e2 := fun h => ((H.e2 (by rwa [getD_set_ne _ (by decide)] at h))).gr hg
  e3 := fun h => ((H.e3 (by rwa [getD_set_ne _ (by decide)] at h))).gr hg
theorem IvA.o8 {x : World} {a b c t : Tm} {L : Array Bool} {s9 s10 s11 s12 s15 s16 s17 s18 s19 s20 s21 s22 : Value} {w : World} (H : IvA x a b c t L s9 s10 s11 s12 s15 s16 s17 s18 s19 s20 s21 s22 w) (hN : L.getD 8 true = false) : IvA x a b c t (L.setIfInBounds 8 true) (.pointer (some ⟨w.heap.size, 0, none⟩)) s10 s11 s12 s15 s16 s17 s18 s19 s20 s21 s22 (w.alloc (.cells #[.int .i64 0, .int .i64 0] 64)) where
  z := by rw [Array.size_setIfInBounds]; exact H.z
  bel := belA1 H.bel _
  c0 := fun h => H.c0 (by rwa [getD_set_ne _ (by decide)] at h)
  c1 := fun h => H.c1 (by rwa [getD_set_ne _ (by decide)] at h)
  c2 := fun h => H.c2 (by rwa [getD_set_ne _ (by decide)] at h)
  c3 := fun h => H.c3 (by rwa [getD_set_ne _ (by decide)] at h)
  c4 := fun h => H.c4 (by rwa [getD_set_ne _ (by decide)] at h)
  c5 := fun h => H.c5 (by rwa [getD_set_ne _ (by decide)] at h)
  c6 := fun h => H.c6 (by rwa [getD_set_ne _ (by decide)] at h)
  c7 := fun h => H.c7 (by rwa [getD_set_ne _ (by decide)] at h)
  b0 := fun _ => ⟨(0, 0), Bo.new H.bel.size⟩
  b1 := fun h => ((H.b1 (by rwa [getD_set_ne _ (by decide)] at h))).imp fun _ k => k.gr (gr1 _ _)
  b2 := fun h => ((H.b2 (by rwa [getD_set_ne _ (by decide)] at h))).imp fun _ k => k.gr (gr1 _ _)
  b3 := fun h => ((H.b3 (by rwa [getD_set_ne _ (by decide)] at h))).imp fun _ k => k.gr (gr1 _ _)
  d01 := fun h h' => (fun e => by obtain ⟨p, k⟩ := H.b1 (by rwa [getD_set_ne _ (by decide)] at h'); exact k.ne_new e.symm)
  d02 := fun h h' => (fun e => by obtain ⟨p, k⟩ := H.b2 (by rwa [getD_set_ne _ (by decide)] at h'); exact k.ne_new e.symm)
  d03 := fun h h' => (fun e => by obtain ⟨p, k⟩ := H.b3 (by rwa [getD_set_ne _ (by decide)] at h'); exact k.ne_new e.symm)
  d12 := fun h h' => H.d12 (by rwa [getD_set_ne _ (by decide)] at h) (by rwa [getD_set_ne _ (by decide)] at h')
  d13 := fun h h' => H.d13 (by rwa [getD_set_ne _ (by decide)] at h) (by rwa [getD_set_ne _ (by decide)] at h')
  d23 := fun h h' => H.d23 (by rwa [getD_set_ne _ (by decide)] at h) (by rwa [getD_set_ne _ (by decide)] at h')
  f0 := fun _ => getD_set_same H.z (by decide)
  f1 := fun h => by rw [getD_set_ne _ (by decide)]; exact H.f1 (by rwa [getD_set_ne _ (by decide)] at h)
  f2 := fun h => by rw [getD_set_ne _ (by decide)]; exact H.f2 (by rwa [getD_set_ne _ (by decide)] at h)
  f3 := fun h => by rw [getD_set_ne _ (by decide)]; exact H.f3 (by rwa [getD_set_ne _ (by decide)] at h)
  e0 := fun h => (notl hN (H.f0 (by rwa [getD_set_ne _ (by decide)] at h))).elim
  e1 := fun h => ((H.e1 (by rwa [getD_set_ne _ (by decide)] at h))).gr (gr1 _ _)
  e2 := fun h => ((H.e2 (by rwa [getD_set_ne _ (by decide)] at h))).gr (gr1 _ _)
  e3 := fun h => ((H.e3 (by rwa [getD_set_ne _ (by decide)] at h))).gr (gr1 _ _)
theorem IvA.o9 {x : World} {a b c t : Tm} {L : Array Bool} {s9 s10 s11 s12 s15 s16 s17 s18 s19 s20 s21 s22 : Value} {w : World} (H : IvA x a b c t L s9 s10 s11 s12 s15 s16 s17 s18 s19 s20 s21 s22 w) (hN : L.getD 9 true = false) : IvA x a b c t (L.setIfInBounds 9 true) s9 (.pointer (some ⟨w.heap.size, 0, none⟩)) s11 s12 s15 s16 s17 s18 s19 s20 s21 s22 (w.alloc (.cells #[.int .i64 0, .int .i64 0] 64)) where
  z := by rw [Array.size_setIfInBounds]; exact H.z
  bel := belA1 H.bel _
  c0 := fun h => H.c0 (by rwa [getD_set_ne _ (by decide)] at h)
  c1 := fun h => H.c1 (by rwa [getD_set_ne _ (by decide)] at h)
  c2 := fun h => H.c2 (by rwa [getD_set_ne _ (by decide)] at h)
  c3 := fun h => H.c3 (by rwa [getD_set_ne _ (by decide)] at h)
  c4 := fun h => H.c4 (by rwa [getD_set_ne _ (by decide)] at h)
  c5 := fun h => H.c5 (by rwa [getD_set_ne _ (by decide)] at h)
  c6 := fun h => H.c6 (by rwa [getD_set_ne _ (by decide)] at h)
  c7 := fun h => H.c7 (by rwa [getD_set_ne _ (by decide)] at h)
  b0 := fun h => ((H.b0 (by rwa [getD_set_ne _ (by decide)] at h))).imp fun _ k => k.gr (gr1 _ _)
  b1 := fun _ => ⟨(0, 0), Bo.new H.bel.size⟩
  b2 := fun h => ((H.b2 (by rwa [getD_set_ne _ (by decide)] at h))).imp fun _ k => k.gr (gr1 _ _)
  b3 := fun h => ((H.b3 (by rwa [getD_set_ne _ (by decide)] at h))).imp fun _ k => k.gr (gr1 _ _)
  d01 := fun h h' => (fun e => by obtain ⟨p, k⟩ := H.b0 (by rwa [getD_set_ne _ (by decide)] at h); exact k.ne_new e)
  d02 := fun h h' => H.d02 (by rwa [getD_set_ne _ (by decide)] at h) (by rwa [getD_set_ne _ (by decide)] at h')
  d03 := fun h h' => H.d03 (by rwa [getD_set_ne _ (by decide)] at h) (by rwa [getD_set_ne _ (by decide)] at h')
  d12 := fun h h' => (fun e => by obtain ⟨p, k⟩ := H.b2 (by rwa [getD_set_ne _ (by decide)] at h'); exact k.ne_new e.symm)
  d13 := fun h h' => (fun e => by obtain ⟨p, k⟩ := H.b3 (by rwa [getD_set_ne _ (by decide)] at h'); exact k.ne_new e.symm)
  d23 := fun h h' => H.d23 (by rwa [getD_set_ne _ (by decide)] at h) (by rwa [getD_set_ne _ (by decide)] at h')
  f0 := fun h => by rw [getD_set_ne _ (by decide)]; exact H.f0 (by rwa [getD_set_ne _ (by decide)] at h)
  f1 := fun _ => getD_set_same H.z (by decide)
  f2 := fun h => by rw [getD_set_ne _ (by decide)]; exact H.f2 (by rwa [getD_set_ne _ (by decide)] at h)
  f3 := fun h => by rw [getD_set_ne _ (by decide)]; exact H.f3 (by rwa [getD_set_ne _ (by decide)] at h)
  e0 := fun h => ((H.e0 (by rwa [getD_set_ne _ (by decide)] at h))).gr (gr1 _ _)
  e1 := fun h => (notl hN (H.f1 (by rwa [getD_set_ne _ (by decide)] at h))).elim
  e2 := fun h => ((H.e2 (by rwa [getD_set_ne _ (by decide)] at h))).gr (gr1 _ _)
  e3 := fun h => ((H.e3 (by rwa [getD_set_ne _ (by decide)] at h))).gr (gr1 _ _)
theorem IvA.o10 {x : World} {a b c t : Tm} {L : Array Bool} {s9 s10 s11 s12 s15 s16 s17 s18 s19 s20 s21 s22 : Value} {w : World} (H : IvA x a b c t L s9 s10 s11 s12 s15 s16 s17 s18 s19 s20 s21 s22 w) (hN : L.getD 10 true = false) : IvA x a b c t (L.setIfInBounds 10 true) s9 s10 (.pointer (some ⟨w.heap.size, 0, none⟩)) s12 s15 s16 s17 s18 s19 s20 s21 s22 (w.alloc (.cells #[.int .i64 0, .int .i64 0] 64)) where
  z := by rw [Array.size_setIfInBounds]; exact H.z
  bel := belA1 H.bel _
  c0 := fun h => H.c0 (by rwa [getD_set_ne _ (by decide)] at h)
  c1 := fun h => H.c1 (by rwa [getD_set_ne _ (by decide)] at h)
  c2 := fun h => H.c2 (by rwa [getD_set_ne _ (by decide)] at h)
  c3 := fun h => H.c3 (by rwa [getD_set_ne _ (by decide)] at h)
  c4 := fun h => H.c4 (by rwa [getD_set_ne _ (by decide)] at h)
  c5 := fun h => H.c5 (by rwa [getD_set_ne _ (by decide)] at h)
  c6 := fun h => H.c6 (by rwa [getD_set_ne _ (by decide)] at h)
  c7 := fun h => H.c7 (by rwa [getD_set_ne _ (by decide)] at h)
  b0 := fun h => ((H.b0 (by rwa [getD_set_ne _ (by decide)] at h))).imp fun _ k => k.gr (gr1 _ _)
  b1 := fun h => ((H.b1 (by rwa [getD_set_ne _ (by decide)] at h))).imp fun _ k => k.gr (gr1 _ _)
  b2 := fun _ => ⟨(0, 0), Bo.new H.bel.size⟩
  b3 := fun h => ((H.b3 (by rwa [getD_set_ne _ (by decide)] at h))).imp fun _ k => k.gr (gr1 _ _)
  d01 := fun h h' => H.d01 (by rwa [getD_set_ne _ (by decide)] at h) (by rwa [getD_set_ne _ (by decide)] at h')
  d02 := fun h h' => (fun e => by obtain ⟨p, k⟩ := H.b0 (by rwa [getD_set_ne _ (by decide)] at h); exact k.ne_new e)
  d03 := fun h h' => H.d03 (by rwa [getD_set_ne _ (by decide)] at h) (by rwa [getD_set_ne _ (by decide)] at h')
  d12 := fun h h' => (fun e => by obtain ⟨p, k⟩ := H.b1 (by rwa [getD_set_ne _ (by decide)] at h); exact k.ne_new e)
  d13 := fun h h' => H.d13 (by rwa [getD_set_ne _ (by decide)] at h) (by rwa [getD_set_ne _ (by decide)] at h')
  d23 := fun h h' => (fun e => by obtain ⟨p, k⟩ := H.b3 (by rwa [getD_set_ne _ (by decide)] at h'); exact k.ne_new e.symm)
  f0 := fun h => by rw [getD_set_ne _ (by decide)]; exact H.f0 (by rwa [getD_set_ne _ (by decide)] at h)
  f1 := fun h => by rw [getD_set_ne _ (by decide)]; exact H.f1 (by rwa [getD_set_ne _ (by decide)] at h)
  f2 := fun _ => getD_set_same H.z (by decide)
  f3 := fun h => by rw [getD_set_ne _ (by decide)]; exact H.f3 (by rwa [getD_set_ne _ (by decide)] at h)
  e0 := fun h => ((H.e0 (by rwa [getD_set_ne _ (by decide)] at h))).gr (gr1 _ _)
  e1 := fun h => ((H.e1 (by rwa [getD_set_ne _ (by decide)] at h))).gr (gr1 _ _)
  e2 := fun h => (notl hN (H.f2 (by rwa [getD_set_ne _ (by decide)] at h))).elim
  e3 := fun h => ((H.e3 (by rwa [getD_set_ne _ (by decide)] at h))).gr (gr1 _ _)
theorem IvA.o11 {x : World} {a b c t : Tm} {L : Array Bool} {s9 s10 s11 s12 s15 s16 s17 s18 s19 s20 s21 s22 : Value} {w : World} (H : IvA x a b c t L s9 s10 s11 s12 s15 s16 s17 s18 s19 s20 s21 s22 w) (hN : L.getD 11 true = false) : IvA x a b c t (L.setIfInBounds 11 true) s9 s10 s11 (.pointer (some ⟨w.heap.size, 0, none⟩)) s15 s16 s17 s18 s19 s20 s21 s22 (w.alloc (.cells #[.int .i64 0, .int .i64 0] 64)) where
  z := by rw [Array.size_setIfInBounds]; exact H.z
  bel := belA1 H.bel _
  c0 := fun h => H.c0 (by rwa [getD_set_ne _ (by decide)] at h)
  c1 := fun h => H.c1 (by rwa [getD_set_ne _ (by decide)] at h)
  c2 := fun h => H.c2 (by rwa [getD_set_ne _ (by decide)] at h)
  c3 := fun h => H.c3 (by rwa [getD_set_ne _ (by decide)] at h)
  c4 := fun h => H.c4 (by rwa [getD_set_ne _ (by decide)] at h)
  c5 := fun h => H.c5 (by rwa [getD_set_ne _ (by decide)] at h)
  c6 := fun h => H.c6 (by rwa [getD_set_ne _ (by decide)] at h)
  c7 := fun h => H.c7 (by rwa [getD_set_ne _ (by decide)] at h)
  b0 := fun h => ((H.b0 (by rwa [getD_set_ne _ (by decide)] at h))).imp fun _ k => k.gr (gr1 _ _)
  b1 := fun h => ((H.b1 (by rwa [getD_set_ne _ (by decide)] at h))).imp fun _ k => k.gr (gr1 _ _)
  b2 := fun h => ((H.b2 (by rwa [getD_set_ne _ (by decide)] at h))).imp fun _ k => k.gr (gr1 _ _)
  b3 := fun _ => ⟨(0, 0), Bo.new H.bel.size⟩
  d01 := fun h h' => H.d01 (by rwa [getD_set_ne _ (by decide)] at h) (by rwa [getD_set_ne _ (by decide)] at h')
  d02 := fun h h' => H.d02 (by rwa [getD_set_ne _ (by decide)] at h) (by rwa [getD_set_ne _ (by decide)] at h')
  d03 := fun h h' => (fun e => by obtain ⟨p, k⟩ := H.b0 (by rwa [getD_set_ne _ (by decide)] at h); exact k.ne_new e)
  d12 := fun h h' => H.d12 (by rwa [getD_set_ne _ (by decide)] at h) (by rwa [getD_set_ne _ (by decide)] at h')
  d13 := fun h h' => (fun e => by obtain ⟨p, k⟩ := H.b1 (by rwa [getD_set_ne _ (by decide)] at h); exact k.ne_new e)
  d23 := fun h h' => (fun e => by obtain ⟨p, k⟩ := H.b2 (by rwa [getD_set_ne _ (by decide)] at h); exact k.ne_new e)
  f0 := fun h => by rw [getD_set_ne _ (by decide)]; exact H.f0 (by rwa [getD_set_ne _ (by decide)] at h)
  f1 := fun h => by rw [getD_set_ne _ (by decide)]; exact H.f1 (by rwa [getD_set_ne _ (by decide)] at h)
  f2 := fun h => by rw [getD_set_ne _ (by decide)]; exact H.f2 (by rwa [getD_set_ne _ (by decide)] at h)
  f3 := fun _ => getD_set_same H.z (by decide)
  e0 := fun h => ((H.e0 (by rwa [getD_set_ne _ (by decide)] at h))).gr (gr1 _ _)
  e1 := fun h => ((H.e1 (by rwa [getD_set_ne _ (by decide)] at h))).gr (gr1 _ _)
  e2 := fun h => ((H.e2 (by rwa [getD_set_ne _ (by decide)] at h))).gr (gr1 _ _)
  e3 := fun h => (notl hN (H.f3 (by rwa [getD_set_ne _ (by decide)] at h))).elim
theorem IvA.o12 {x : World} {a b c t : Tm} {L : Array Bool} {s9 s10 s11 s12 s15 s16 s17 s18 s19 s20 s21 s22 : Value} {w : World} (H : IvA x a b c t L s9 s10 s11 s12 s15 s16 s17 s18 s19 s20 s21 s22 w) (l0 : L.getD 8 false = true) (l1 : L.getD 9 false = true) (l2 : L.getD 10 false = true) (l3 : L.getD 11 false = true) {g : Nat} (hs : s9 = .pointer (some ⟨g, 0, none⟩)) {p : Pt} (hb : Bo x.heap.size w s9 p) (hge : x.heap.size ≤ g) : IvA x a b c t (L.setIfInBounds 12 true) s9 s10 s11 s12 s15 s16 s17 s18 s19 s20 s21 s22 ((w.setCell ⟨g, 0, none⟩ (.int .i64 (ptO a).1)).setCell ⟨g, 1, none⟩ (.int .i64 (ptO a).2)) where
  z := by rw [Array.size_setIfInBounds]; exact H.z
  bel := belS (belS H.bel hge _ _) hge _ _
  c0 := fun h => H.c0 (by rwa [getD_set_ne _ (by decide)] at h)
  c1 := fun h => H.c1 (by rwa [getD_set_ne _ (by decide)] at h)
  c2 := fun h => H.c2 (by rwa [getD_set_ne _ (by decide)] at h)
  c3 := fun h => H.c3 (by rwa [getD_set_ne _ (by decide)] at h)
  c4 := fun h => H.c4 (by rwa [getD_set_ne _ (by decide)] at h)
  c5 := fun h => H.c5 (by rwa [getD_set_ne _ (by decide)] at h)
  c6 := fun h => H.c6 (by rwa [getD_set_ne _ (by decide)] at h)
  c7 := fun h => H.c7 (by rwa [getD_set_ne _ (by decide)] at h)
  b0 := fun _ => ⟨_, by rw [hs]; exact Bo.put (hs ▸ hb) (ptO a)⟩
  b1 := fun h => (H.b1 (by rwa [getD_set_ne _ (by decide)] at h)).imp fun _ k => k.off (fun e => H.d01 l0 l1 (by rw [hs, e]))
  b2 := fun h => (H.b2 (by rwa [getD_set_ne _ (by decide)] at h)).imp fun _ k => k.off (fun e => H.d02 l0 l2 (by rw [hs, e]))
  b3 := fun h => (H.b3 (by rwa [getD_set_ne _ (by decide)] at h)).imp fun _ k => k.off (fun e => H.d03 l0 l3 (by rw [hs, e]))
  d01 := fun h h' => H.d01 (by rwa [getD_set_ne _ (by decide)] at h) (by rwa [getD_set_ne _ (by decide)] at h')
  d02 := fun h h' => H.d02 (by rwa [getD_set_ne _ (by decide)] at h) (by rwa [getD_set_ne _ (by decide)] at h')
  d03 := fun h h' => H.d03 (by rwa [getD_set_ne _ (by decide)] at h) (by rwa [getD_set_ne _ (by decide)] at h')
  d12 := fun h h' => H.d12 (by rwa [getD_set_ne _ (by decide)] at h) (by rwa [getD_set_ne _ (by decide)] at h')
  d13 := fun h h' => H.d13 (by rwa [getD_set_ne _ (by decide)] at h) (by rwa [getD_set_ne _ (by decide)] at h')
  d23 := fun h h' => H.d23 (by rwa [getD_set_ne _ (by decide)] at h) (by rwa [getD_set_ne _ (by decide)] at h')
  f0 := fun _ => by rw [getD_set_ne _ (by decide)]; exact l0
  f1 := fun h => by rw [getD_set_ne _ (by decide)]; exact H.f1 (by rwa [getD_set_ne _ (by decide)] at h)
  f2 := fun h => by rw [getD_set_ne _ (by decide)]; exact H.f2 (by rwa [getD_set_ne _ (by decide)] at h)
  f3 := fun h => by rw [getD_set_ne _ (by decide)]; exact H.f3 (by rwa [getD_set_ne _ (by decide)] at h)
  e0 := fun _ => by rw [hs]; exact Bo.put (hs ▸ hb) _
  e1 := fun h => (H.e1 (by rwa [getD_set_ne _ (by decide)] at h)).off (fun e => H.d01 l0 l1 (by rw [hs, e]))
  e2 := fun h => (H.e2 (by rwa [getD_set_ne _ (by decide)] at h)).off (fun e => H.d02 l0 l2 (by rw [hs, e]))
  e3 := fun h => (H.e3 (by rwa [getD_set_ne _ (by decide)] at h)).off (fun e => H.d03 l0 l3 (by rw [hs, e]))
theorem IvA.o13 {x : World} {a b c t : Tm} {L : Array Bool} {s9 s10 s11 s12 s15 s16 s17 s18 s19 s20 s21 s22 : Value} {w : World} (H : IvA x a b c t L s9 s10 s11 s12 s15 s16 s17 s18 s19 s20 s21 s22 w) (l0 : L.getD 8 false = true) (l1 : L.getD 9 false = true) (l2 : L.getD 10 false = true) (l3 : L.getD 11 false = true) {g : Nat} (hs : s10 = .pointer (some ⟨g, 0, none⟩)) {p : Pt} (hb : Bo x.heap.size w s10 p) (hge : x.heap.size ≤ g) : IvA x a b c t (L.setIfInBounds 13 true) s9 s10 s11 s12 s15 s16 s17 s18 s19 s20 s21 s22 ((w.setCell ⟨g, 0, none⟩ (.int .i64 (ptO b).1)).setCell ⟨g, 1, none⟩ (.int .i64 (ptO b).2)) where
  z := by rw [Array.size_setIfInBounds]; exact H.z
  bel := belS (belS H.bel hge _ _) hge _ _
  c0 := fun h => H.c0 (by rwa [getD_set_ne _ (by decide)] at h)
  c1 := fun h => H.c1 (by rwa [getD_set_ne _ (by decide)] at h)
  c2 := fun h => H.c2 (by rwa [getD_set_ne _ (by decide)] at h)
  c3 := fun h => H.c3 (by rwa [getD_set_ne _ (by decide)] at h)
  c4 := fun h => H.c4 (by rwa [getD_set_ne _ (by decide)] at h)
  c5 := fun h => H.c5 (by rwa [getD_set_ne _ (by decide)] at h)
  c6 := fun h => H.c6 (by rwa [getD_set_ne _ (by decide)] at h)
  c7 := fun h => H.c7 (by rwa [getD_set_ne _ (by decide)] at h)
  b0 := fun h => (H.b0 (by rwa [getD_set_ne _ (by decide)] at h)).imp fun _ k => k.off (fun e => H.d01 l0 l1 (by rw [hs, e]))
  b1 := fun _ => ⟨_, by rw [hs]; exact Bo.put (hs ▸ hb) (ptO b)⟩
  b2 := fun h => (H.b2 (by rwa [getD_set_ne _ (by decide)] at h)).imp fun _ k => k.off (fun e => H.d12 l1 l2 (by rw [hs, e]))
  b3 := fun h => (H.b3 (by rwa [getD_set_ne _ (by decide)] at h)).imp fun _ k => k.off (fun e => H.d13 l1 l3 (by rw [hs, e]))
  d01 := fun h h' => H.d01 (by rwa [getD_set_ne _ (by decide)] at h) (by rwa [getD_set_ne _ (by decide)] at h')
  d02 := fun h h' => H.d02 (by rwa [getD_set_ne _ (by decide)] at h) (by rwa [getD_set_ne _ (by decide)] at h')
  d03 := fun h h' => H.d03 (by rwa [getD_set_ne _ (by decide)] at h) (by rwa [getD_set_ne _ (by decide)] at h')
  d12 := fun h h' => H.d12 (by rwa [getD_set_ne _ (by decide)] at h) (by rwa [getD_set_ne _ (by decide)] at h')
  d13 := fun h h' => H.d13 (by rwa [getD_set_ne _ (by decide)] at h) (by rwa [getD_set_ne _ (by decide)] at h')
  d23 := fun h h' => H.d23 (by rwa [getD_set_ne _ (by decide)] at h) (by rwa [getD_set_ne _ (by decide)] at h')
  f0 := fun h => by rw [getD_set_ne _ (by decide)]; exact H.f0 (by rwa [getD_set_ne _ (by decide)] at h)
  f1 := fun _ => by rw [getD_set_ne _ (by decide)]; exact l1
  f2 := fun h => by rw [getD_set_ne _ (by decide)]; exact H.f2 (by rwa [getD_set_ne _ (by decide)] at h)
  f3 := fun h => by rw [getD_set_ne _ (by decide)]; exact H.f3 (by rwa [getD_set_ne _ (by decide)] at h)
  e0 := fun h => (H.e0 (by rwa [getD_set_ne _ (by decide)] at h)).off (fun e => H.d01 l0 l1 (by rw [hs, e]))
  e1 := fun _ => by rw [hs]; exact Bo.put (hs ▸ hb) _
  e2 := fun h => (H.e2 (by rwa [getD_set_ne _ (by decide)] at h)).off (fun e => H.d12 l1 l2 (by rw [hs, e]))
  e3 := fun h => (H.e3 (by rwa [getD_set_ne _ (by decide)] at h)).off (fun e => H.d13 l1 l3 (by rw [hs, e]))
theorem IvA.o14 {x : World} {a b c t : Tm} {L : Array Bool} {s9 s10 s11 s12 s15 s16 s17 s18 s19 s20 s21 s22 : Value} {w : World} (H : IvA x a b c t L s9 s10 s11 s12 s15 s16 s17 s18 s19 s20 s21 s22 w) (l0 : L.getD 8 false = true) (l1 : L.getD 9 false = true) (l2 : L.getD 10 false = true) (l3 : L.getD 11 false = true) {g : Nat} (hs : s11 = .pointer (some ⟨g, 0, none⟩)) {p : Pt} (hb : Bo x.heap.size w s11 p) (hge : x.heap.size ≤ g) : IvA x a b c t (L.setIfInBounds 14 true) s9 s10 s11 s12 s15 s16 s17 s18 s19 s20 s21 s22 ((w.setCell ⟨g, 0, none⟩ (.int .i64 (ptO c).1)).setCell ⟨g, 1, none⟩ (.int .i64 (ptO c).2)) where
  z := by rw [Array.size_setIfInBounds]; exact H.z
  bel := belS (belS H.bel hge _ _) hge _ _
  c0 := fun h => H.c0 (by rwa [getD_set_ne _ (by decide)] at h)
  c1 := fun h => H.c1 (by rwa [getD_set_ne _ (by decide)] at h)
  c2 := fun h => H.c2 (by rwa [getD_set_ne _ (by decide)] at h)
  c3 := fun h => H.c3 (by rwa [getD_set_ne _ (by decide)] at h)
  c4 := fun h => H.c4 (by rwa [getD_set_ne _ (by decide)] at h)
  c5 := fun h => H.c5 (by rwa [getD_set_ne _ (by decide)] at h)
  c6 := fun h => H.c6 (by rwa [getD_set_ne _ (by decide)] at h)
  c7 := fun h => H.c7 (by rwa [getD_set_ne _ (by decide)] at h)
  b0 := fun h => (H.b0 (by rwa [getD_set_ne _ (by decide)] at h)).imp fun _ k => k.off (fun e => H.d02 l0 l2 (by rw [hs, e]))
  b1 := fun h => (H.b1 (by rwa [getD_set_ne _ (by decide)] at h)).imp fun _ k => k.off (fun e => H.d12 l1 l2 (by rw [hs, e]))
  b2 := fun _ => ⟨_, by rw [hs]; exact Bo.put (hs ▸ hb) (ptO c)⟩
  b3 := fun h => (H.b3 (by rwa [getD_set_ne _ (by decide)] at h)).imp fun _ k => k.off (fun e => H.d23 l2 l3 (by rw [hs, e]))
  d01 := fun h h' => H.d01 (by rwa [getD_set_ne _ (by decide)] at h) (by rwa [getD_set_ne _ (by decide)] at h')
  d02 := fun h h' => H.d02 (by rwa [getD_set_ne _ (by decide)] at h) (by rwa [getD_set_ne _ (by decide)] at h')
  d03 := fun h h' => H.d03 (by rwa [getD_set_ne _ (by decide)] at h) (by rwa [getD_set_ne _ (by decide)] at h')
  d12 := fun h h' => H.d12 (by rwa [getD_set_ne _ (by decide)] at h) (by rwa [getD_set_ne _ (by decide)] at h')
  d13 := fun h h' => H.d13 (by rwa [getD_set_ne _ (by decide)] at h) (by rwa [getD_set_ne _ (by decide)] at h')
  d23 := fun h h' => H.d23 (by rwa [getD_set_ne _ (by decide)] at h) (by rwa [getD_set_ne _ (by decide)] at h')
  f0 := fun h => by rw [getD_set_ne _ (by decide)]; exact H.f0 (by rwa [getD_set_ne _ (by decide)] at h)
  f1 := fun h => by rw [getD_set_ne _ (by decide)]; exact H.f1 (by rwa [getD_set_ne _ (by decide)] at h)
  f2 := fun _ => by rw [getD_set_ne _ (by decide)]; exact l2
  f3 := fun h => by rw [getD_set_ne _ (by decide)]; exact H.f3 (by rwa [getD_set_ne _ (by decide)] at h)
  e0 := fun h => (H.e0 (by rwa [getD_set_ne _ (by decide)] at h)).off (fun e => H.d02 l0 l2 (by rw [hs, e]))
  e1 := fun h => (H.e1 (by rwa [getD_set_ne _ (by decide)] at h)).off (fun e => H.d12 l1 l2 (by rw [hs, e]))
  e2 := fun _ => by rw [hs]; exact Bo.put (hs ▸ hb) _
  e3 := fun h => (H.e3 (by rwa [getD_set_ne _ (by decide)] at h)).off (fun e => H.d23 l2 l3 (by rw [hs, e]))
theorem IvA.o15 {x : World} {a b c t : Tm} {L : Array Bool} {s9 s10 s11 s12 s15 s16 s17 s18 s19 s20 s21 s22 : Value} {w : World} (H : IvA x a b c t L s9 s10 s11 s12 s15 s16 s17 s18 s19 s20 s21 s22 w) (l0 : L.getD 8 false = true) (l1 : L.getD 9 false = true) (l2 : L.getD 10 false = true) (l3 : L.getD 11 false = true) {g : Nat} (hs : s12 = .pointer (some ⟨g, 0, none⟩)) {p : Pt} (hb : Bo x.heap.size w s12 p) (hge : x.heap.size ≤ g) : IvA x a b c t (L.setIfInBounds 15 true) s9 s10 s11 s12 s15 s16 s17 s18 s19 s20 s21 s22 ((w.setCell ⟨g, 0, none⟩ (.int .i64 (ptO t).1)).setCell ⟨g, 1, none⟩ (.int .i64 (ptO t).2)) where
  z := by rw [Array.size_setIfInBounds]; exact H.z
  bel := belS (belS H.bel hge _ _) hge _ _
  c0 := fun h => H.c0 (by rwa [getD_set_ne _ (by decide)] at h)
  c1 := fun h => H.c1 (by rwa [getD_set_ne _ (by decide)] at h)
  c2 := fun h => H.c2 (by rwa [getD_set_ne _ (by decide)] at h)
  c3 := fun h => H.c3 (by rwa [getD_set_ne _ (by decide)] at h)
  c4 := fun h => H.c4 (by rwa [getD_set_ne _ (by decide)] at h)
  c5 := fun h => H.c5 (by rwa [getD_set_ne _ (by decide)] at h)
  c6 := fun h => H.c6 (by rwa [getD_set_ne _ (by decide)] at h)
  c7 := fun h => H.c7 (by rwa [getD_set_ne _ (by decide)] at h)
  b0 := fun h => (H.b0 (by rwa [getD_set_ne _ (by decide)] at h)).imp fun _ k => k.off (fun e => H.d03 l0 l3 (by rw [hs, e]))
  b1 := fun h => (H.b1 (by rwa [getD_set_ne _ (by decide)] at h)).imp fun _ k => k.off (fun e => H.d13 l1 l3 (by rw [hs, e]))
  b2 := fun h => (H.b2 (by rwa [getD_set_ne _ (by decide)] at h)).imp fun _ k => k.off (fun e => H.d23 l2 l3 (by rw [hs, e]))
  b3 := fun _ => ⟨_, by rw [hs]; exact Bo.put (hs ▸ hb) (ptO t)⟩
  d01 := fun h h' => H.d01 (by rwa [getD_set_ne _ (by decide)] at h) (by rwa [getD_set_ne _ (by decide)] at h')
  d02 := fun h h' => H.d02 (by rwa [getD_set_ne _ (by decide)] at h) (by rwa [getD_set_ne _ (by decide)] at h')
  d03 := fun h h' => H.d03 (by rwa [getD_set_ne _ (by decide)] at h) (by rwa [getD_set_ne _ (by decide)] at h')
  d12 := fun h h' => H.d12 (by rwa [getD_set_ne _ (by decide)] at h) (by rwa [getD_set_ne _ (by decide)] at h')
  d13 := fun h h' => H.d13 (by rwa [getD_set_ne _ (by decide)] at h) (by rwa [getD_set_ne _ (by decide)] at h')
  d23 := fun h h' => H.d23 (by rwa [getD_set_ne _ (by decide)] at h) (by rwa [getD_set_ne _ (by decide)] at h')
  f0 := fun h => by rw [getD_set_ne _ (by decide)]; exact H.f0 (by rwa [getD_set_ne _ (by decide)] at h)
  f1 := fun h => by rw [getD_set_ne _ (by decide)]; exact H.f1 (by rwa [getD_set_ne _ (by decide)] at h)
  f2 := fun h => by rw [getD_set_ne _ (by decide)]; exact H.f2 (by rwa [getD_set_ne _ (by decide)] at h)
  f3 := fun _ => by rw [getD_set_ne _ (by decide)]; exact l3
  e0 := fun h => (H.e0 (by rwa [getD_set_ne _ (by decide)] at h)).off (fun e => H.d03 l0 l3 (by rw [hs, e]))
  e1 := fun h => (H.e1 (by rwa [getD_set_ne _ (by decide)] at h)).off (fun e => H.d13 l1 l3 (by rw [hs, e]))
  e2 := fun h => (H.e2 (by rwa [getD_set_ne _ (by decide)] at h)).off (fun e => H.d23 l2 l3 (by rw [hs, e]))
  e3 := fun _ => by rw [hs]; exact Bo.put (hs ▸ hb) _
set_option maxHeartbeats 4000000 in
set_option maxRecDepth 100000 in
theorem ceAbove_any (a b c t : Tm) (w : World) (ha : plT a = true) (hb : plT b = true) (hc : plT c = true) (ht : plT t = true) : Calls Tryz.prog 59 #[tmV a, tmV b, tmV c, tmV t] w fun e w' => e = .returned (.int .i64 (abT a b c t)) ∧ Below w.heap.size w w' := by
  have HC := Lib.hid (fun t W => cePoint_any t W)
  have HT := Lib.hid (fun a b p W (h1 : Sm 1000 a) (h2 : Sm 1000 b) (h3 : Sm 1000 p) => pyTurn_any a b p W h1 h2 h3)
  have HS := Lib.hid (fun n W => l1Sign_any n W)
  have ma := ptO_sm ha
  have mb := ptO_sm hb
  have mc := ptO_sm hc
  have mt := ptO_sm ht
  have p1 := plT_parts ha
  have p2 := plT_parts hb
  have p3 := plT_parts hc
  have p4 := plT_parts ht
  have tb : ∀ {p q r : Tm}, plT p = true → plT q = true → plT r = true → -72 ≤ trn (ptO p) (ptO q) (ptO r) ∧ trn (ptO p) (ptO q) (ptO r) ≤ 72 := fun {p q r} h1 h2 h3 => by
    have e1 := plT_parts h1
    have e2 := plT_parts h2
    have e3 := plT_parts h3
    unfold trn ptO
    dsimp only
    have m1 := mulB2 (x := q.1 - p.1) (y := r.2.1 - p.2.1) (A := 6) (B := 6) (by omega) (by omega)
    have m2 := mulB2 (x := q.2.1 - p.2.1) (y := r.1 - p.1) (A := 6) (B := 6) (by omega) (by omega)
    omega
  have b1 : -72 ≤ (trn (ptO a) (ptO b) (ptO c)) ∧ (trn (ptO a) (ptO b) (ptO c)) ≤ 72 := tb ha hb hc
  have b2 : -72 ≤ (trn (ptO t) (ptO b) (ptO c)) ∧ (trn (ptO t) (ptO b) (ptO c)) ≤ 72 := tb ht hb hc
  have b4 : -72 ≤ (trn (ptO a) (ptO t) (ptO c)) ∧ (trn (ptO a) (ptO t) (ptO c)) ≤ 72 := tb ha ht hc
  have b5 : -72 ≤ (trn (ptO a) (ptO b) (ptO t)) ∧ (trn (ptO a) (ptO b) (ptO t)) ≤ 72 := tb ha hb ht
  have HE := Lib.hid (show abT a b c t = (t.2.2 * (trn (ptO a) (ptO b) (ptO c)) - a.2.2 * (trn (ptO t) (ptO b) (ptO c)) - b.2.2 * (trn (ptO a) (ptO t) (ptO c)) - c.2.2 * (trn (ptO a) (ptO b) (ptO t))) * sgI (trn (ptO a) (ptO b) (ptO c)) from rfl)
  have x1 := mulB2 (x := t.2.2) (y := (trn (ptO a) (ptO b) (ptO c))) (A := 1000000) (B := 72) (by omega) b1
  have x2 := mulB2 (x := a.2.2) (y := (trn (ptO t) (ptO b) (ptO c))) (A := 1000000) (B := 72) (by omega) b2
  have x3 := mulB2 (x := b.2.2) (y := (trn (ptO a) (ptO t) (ptO c))) (A := 1000000) (B := 72) (by omega) b4
  have x4 := mulB2 (x := c.2.2) (y := (trn (ptO a) (ptO b) (ptO t))) (A := 1000000) (B := 72) (by omega) b5
  have q1 : IntKind.i64.wrap (t.2.2 * (trn (ptO a) (ptO b) (ptO c))) = t.2.2 * (trn (ptO a) (ptO b) (ptO c)) := IntWalk.i64_in _ (by omega)
  have q2 : IntKind.i64.wrap (a.2.2 * (trn (ptO t) (ptO b) (ptO c))) = a.2.2 * (trn (ptO t) (ptO b) (ptO c)) := IntWalk.i64_in _ (by omega)
  have q3 : IntKind.i64.wrap (t.2.2 * (trn (ptO a) (ptO b) (ptO c)) - a.2.2 * (trn (ptO t) (ptO b) (ptO c))) = t.2.2 * (trn (ptO a) (ptO b) (ptO c)) - a.2.2 * (trn (ptO t) (ptO b) (ptO c)) := IntWalk.i64_in _ (by omega)
  have q4 : IntKind.i64.wrap (b.2.2 * (trn (ptO a) (ptO t) (ptO c))) = b.2.2 * (trn (ptO a) (ptO t) (ptO c)) := IntWalk.i64_in _ (by omega)
  have q5 : IntKind.i64.wrap (t.2.2 * (trn (ptO a) (ptO b) (ptO c)) - a.2.2 * (trn (ptO t) (ptO b) (ptO c)) - b.2.2 * (trn (ptO a) (ptO t) (ptO c))) = t.2.2 * (trn (ptO a) (ptO b) (ptO c)) - a.2.2 * (trn (ptO t) (ptO b) (ptO c)) - b.2.2 * (trn (ptO a) (ptO t) (ptO c)) := IntWalk.i64_in _ (by omega)
  have q6 : IntKind.i64.wrap (c.2.2 * (trn (ptO a) (ptO b) (ptO t))) = c.2.2 * (trn (ptO a) (ptO b) (ptO t)) := IntWalk.i64_in _ (by omega)
  have q7 : IntKind.i64.wrap (t.2.2 * (trn (ptO a) (ptO b) (ptO c)) - a.2.2 * (trn (ptO t) (ptO b) (ptO c)) - b.2.2 * (trn (ptO a) (ptO t) (ptO c)) - c.2.2 * (trn (ptO a) (ptO b) (ptO t))) = t.2.2 * (trn (ptO a) (ptO b) (ptO c)) - a.2.2 * (trn (ptO t) (ptO b) (ptO c)) - b.2.2 * (trn (ptO a) (ptO t) (ptO c)) - c.2.2 * (trn (ptO a) (ptO b) (ptO t)) := IntWalk.i64_in _ (by omega)
  have sg : -1 ≤ sgI (trn (ptO a) (ptO b) (ptO c)) ∧ sgI (trn (ptO a) (ptO b) (ptO c)) ≤ 1 := by unfold sgI; (repeat' split) <;> omega
  have x5 := mulB2 (x := t.2.2 * (trn (ptO a) (ptO b) (ptO c)) - a.2.2 * (trn (ptO t) (ptO b) (ptO c)) - b.2.2 * (trn (ptO a) (ptO t) (ptO c)) - c.2.2 * (trn (ptO a) (ptO b) (ptO t))) (y := sgI (trn (ptO a) (ptO b) (ptO c))) (A := 1000000000) (B := 1) (by omega) sg
  have q8 : IntKind.i64.wrap ((t.2.2 * (trn (ptO a) (ptO b) (ptO c)) - a.2.2 * (trn (ptO t) (ptO b) (ptO c)) - b.2.2 * (trn (ptO a) (ptO t) (ptO c)) - c.2.2 * (trn (ptO a) (ptO b) (ptO t))) * sgI (trn (ptO a) (ptO b) (ptO c))) = (t.2.2 * (trn (ptO a) (ptO b) (ptO c)) - a.2.2 * (trn (ptO t) (ptO b) (ptO c)) - b.2.2 * (trn (ptO a) (ptO t) (ptO c)) - c.2.2 * (trn (ptO a) (ptO b) (ptO t))) * sgI (trn (ptO a) (ptO b) (ptO c)) := IntWalk.i64_in _ (by omega)
  rw [HE.out]
  have hSN := S12.new w a b c t
  have hbN : Below w.heap.size w ((((w.alloc (.cells #[.int .i64 a.1, .int .i64 a.2.1, .int .i64 a.2.2] 42)).alloc (.cells #[.int .i64 b.1, .int .i64 b.2.1, .int .i64 b.2.2] 42)).alloc (.cells #[.int .i64 c.1, .int .i64 c.2.1, .int .i64 c.2.2] 42)).alloc (.cells #[.int .i64 t.1, .int .i64 t.2.1, .int .i64 t.2.2] 42)) := belA1 (belA1 (belA1 (belA1 (Below.refl _ _) _) _) _) _
  have HN := Lib.hid hbN
  clear HE x1 x2 x3 x4 x5 sg b1 b2 b4 b5 tb p1 p2 p3 p4 ha hb hc ht hbN
  go_enter Tryz.func59, Tryz.ntmps59
  go_wp2
  generalize hX : ((((w.alloc (.cells #[.int .i64 a.1, .int .i64 a.2.1, .int .i64 a.2.2] 42)).alloc (.cells #[.int .i64 b.1, .int .i64 b.2.1, .int .i64 b.2.2] 42)).alloc (.cells #[.int .i64 c.1, .int .i64 c.2.1, .int .i64 c.2.2] 42)).alloc (.cells #[.int .i64 t.1, .int .i64 t.2.1, .int .i64 t.2.2] 42)) = X at hSN HN ⊢
  have HX := Lib.hid hSN
  clear hSN hX
  refine wp_region_inv (by kernel_rfl) (fun L a' w' => ∃ s9 s10 s11 s12 s15 s16 s17 s18 s19 s20 s21 s22, a' = actA a b c t w.heap.size s9 s10 s11 s12 s15 s16 s17 s18 s19 s20 s21 s22 ∧ IvA X a b c t L s9 s10 s11 s12 s15 s16 s17 s18 s19 s20 s21 s22 w') ?_ ?_ ?_
  · exact ⟨_, _, _, _, _, _, _, _, _, _, _, _, rfl, IvA.start X a b c t⟩
  · rintro L a' w' i ⟨s9, s10, s11, s12, s15, s16, s17, s18, s19, s20, s21, s22, rfl, H⟩ hi
    obtain ⟨hL, o, ho, haf⟩ := mem_ready.1 hi
    have hi16 : i < 16 := (Array.getElem?_eq_some_iff.1 ho).1
    clear hi
    have hcell := S12.mk HX.out H.bel
    obtain ⟨⟨a0, a1, a2⟩, ⟨b0, b1, b2⟩, ⟨c0, c1, c2⟩, ⟨t0, t1, t2⟩, -⟩ := hcell
    have hcs : i = 0 ∨ i = 1 ∨ i = 2 ∨ i = 3 ∨ i = 4 ∨ i = 5 ∨ i = 6 ∨ i = 7 ∨ i = 8 ∨ i = 9 ∨ i = 10 ∨ i = 11 ∨ i = 12 ∨ i = 13 ∨ i = 14 ∨ i = 15 := by omega
    rcases hcs with rfl | rfl | rfl | rfl | rfl | rfl | rfl | rfl | rfl | rfl | rfl | rfl | rfl | rfl | rfl | rfl
    · refine wpOp_step rfl fun K' hK => ?_
      rw [if_pos (by rfl)]
      go_simp
      exact hK _ _ ⟨_, _, _, _, _, _, _, _, _, _, _, _, rfl, H.o0⟩
    · cases ho
      have e0 := H.c0 (haf ⟨0, .data⟩ (by simp) rfl)
      subst e0
      refine wpOp_step rfl fun K' hK => ?_
      rw [if_pos (by rfl)]
      go_simp
      refine (HC.out _ _).mono ?_
      rintro e w1 ⟨rfl, hg⟩
      exact hK _ _ ⟨_, _, _, _, _, _, _, _, _, _, _, _, rfl, H.o1 hg⟩
    · refine wpOp_step rfl fun K' hK => ?_
      rw [if_pos (by rfl)]
      go_simp
      exact hK _ _ ⟨_, _, _, _, _, _, _, _, _, _, _, _, rfl, H.o2⟩
    · cases ho
      have e0 := H.c2 (haf ⟨2, .data⟩ (by simp) rfl)
      subst e0
      refine wpOp_step rfl fun K' hK => ?_
      rw [if_pos (by rfl)]
      go_simp
      refine (HC.out _ _).mono ?_
      rintro e w1 ⟨rfl, hg⟩
      exact hK _ _ ⟨_, _, _, _, _, _, _, _, _, _, _, _, rfl, H.o3 hg⟩
    · refine wpOp_step rfl fun K' hK => ?_
      rw [if_pos (by rfl)]
      go_simp
      exact hK _ _ ⟨_, _, _, _, _, _, _, _, _, _, _, _, rfl, H.o4⟩
    · cases ho
      have e0 := H.c4 (haf ⟨4, .data⟩ (by simp) rfl)
      subst e0
      refine wpOp_step rfl fun K' hK => ?_
      rw [if_pos (by rfl)]
      go_simp
      refine (HC.out _ _).mono ?_
      rintro e w1 ⟨rfl, hg⟩
      exact hK _ _ ⟨_, _, _, _, _, _, _, _, _, _, _, _, rfl, H.o5 hg⟩
    · refine wpOp_step rfl fun K' hK => ?_
      rw [if_pos (by rfl)]
      go_simp
      exact hK _ _ ⟨_, _, _, _, _, _, _, _, _, _, _, _, rfl, H.o6⟩
    · cases ho
      have e0 := H.c6 (haf ⟨6, .data⟩ (by simp) rfl)
      subst e0
      refine wpOp_step rfl fun K' hK => ?_
      rw [if_pos (by rfl)]
      go_simp
      refine (HC.out _ _).mono ?_
      rintro e w1 ⟨rfl, hg⟩
      exact hK _ _ ⟨_, _, _, _, _, _, _, _, _, _, _, _, rfl, H.o7 hg⟩
    · refine wpOp_step rfl fun K' hK => ?_
      rw [if_pos (by rfl)]
      go_simp
      exact hK _ _ ⟨_, _, _, _, _, _, _, _, _, _, _, _, rfl, H.o8 hL⟩
    · refine wpOp_step rfl fun K' hK => ?_
      rw [if_pos (by rfl)]
      go_simp
      exact hK _ _ ⟨_, _, _, _, _, _, _, _, _, _, _, _, rfl, H.o9 hL⟩
    · refine wpOp_step rfl fun K' hK => ?_
      rw [if_pos (by rfl)]
      go_simp
      exact hK _ _ ⟨_, _, _, _, _, _, _, _, _, _, _, _, rfl, H.o10 hL⟩
    · refine wpOp_step rfl fun K' hK => ?_
      rw [if_pos (by rfl)]
      go_simp
      exact hK _ _ ⟨_, _, _, _, _, _, _, _, _, _, _, _, rfl, H.o11 hL⟩
    · cases ho
      have l0 : L.getD 8 false = true := (haf ⟨8, .data⟩ (by simp) rfl)
      have l1 : L.getD 9 false = true := (haf ⟨9, .phase⟩ (by simp) rfl)
      have l2 : L.getD 10 false = true := (haf ⟨10, .phase⟩ (by simp) rfl)
      have l3 : L.getD 11 false = true := (haf ⟨11, .phase⟩ (by simp) rfl)
      have e0 := H.c1 (haf ⟨1, .data⟩ (by simp) rfl)
      obtain ⟨p, hb⟩ := H.b0 l0
      obtain ⟨g, hs, hge, -⟩ := id hb
      subst e0
      subst hs
      obtain ⟨⟨k0, k1⟩, f0, f1⟩ := hb.cells
      refine wpOp_step rfl fun K' hK => ?_
      rw [if_pos (by rfl)]
      go_simp
      exact hK _ _ ⟨_, _, _, _, _, _, _, _, _, _, _, _, rfl, H.o12 l0 l1 l2 l3 rfl hb hge⟩
    · cases ho
      have l0 : L.getD 8 false = true := (haf ⟨8, .phase⟩ (by simp) rfl)
      have l1 : L.getD 9 false = true := (haf ⟨9, .phase⟩ (by simp) rfl)
      have l2 : L.getD 10 false = true := (haf ⟨10, .phase⟩ (by simp) rfl)
      have l3 : L.getD 11 false = true := (haf ⟨11, .phase⟩ (by simp) rfl)
      have e0 := H.c3 (haf ⟨3, .data⟩ (by simp) rfl)
      obtain ⟨p, hb⟩ := H.b1 l1
      obtain ⟨g, hs, hge, -⟩ := id hb
      subst e0
      subst hs
      obtain ⟨⟨k0, k1⟩, f0, f1⟩ := hb.cells
      refine wpOp_step rfl fun K' hK => ?_
      rw [if_pos (by rfl)]
      go_simp
      exact hK _ _ ⟨_, _, _, _, _, _, _, _, _, _, _, _, rfl, H.o13 l0 l1 l2 l3 rfl hb hge⟩
    · cases ho
      have l0 : L.getD 8 false = true := (haf ⟨8, .phase⟩ (by simp) rfl)
      have l1 : L.getD 9 false = true := (haf ⟨9, .phase⟩ (by simp) rfl)
      have l2 : L.getD 10 false = true := (haf ⟨10, .phase⟩ (by simp) rfl)
      have l3 : L.getD 11 false = true := (haf ⟨11, .phase⟩ (by simp) rfl)
      have e0 := H.c5 (haf ⟨5, .data⟩ (by simp) rfl)
      obtain ⟨p, hb⟩ := H.b2 l2
      obtain ⟨g, hs, hge, -⟩ := id hb
      subst e0
      subst hs
      obtain ⟨⟨k0, k1⟩, f0, f1⟩ := hb.cells
      refine wpOp_step rfl fun K' hK => ?_
      rw [if_pos (by rfl)]
      go_simp
      exact hK _ _ ⟨_, _, _, _, _, _, _, _, _, _, _, _, rfl, H.o14 l0 l1 l2 l3 rfl hb hge⟩
    · cases ho
      have l0 : L.getD 8 false = true := (haf ⟨8, .phase⟩ (by simp) rfl)
      have l1 : L.getD 9 false = true := (haf ⟨9, .phase⟩ (by simp) rfl)
      have l2 : L.getD 10 false = true := (haf ⟨10, .phase⟩ (by simp) rfl)
      have l3 : L.getD 11 false = true := (haf ⟨11, .phase⟩ (by simp) rfl)
      have e0 := H.c7 (haf ⟨7, .data⟩ (by simp) rfl)
      obtain ⟨p, hb⟩ := H.b3 l3
      obtain ⟨g, hs, hge, -⟩ := id hb
      subst e0
      subst hs
      obtain ⟨⟨k0, k1⟩, f0, f1⟩ := hb.cells
      refine wpOp_step rfl fun K' hK => ?_
      rw [if_pos (by rfl)]
      go_simp
      exact hK _ _ ⟨_, _, _, _, _, _, _, _, _, _, _, _, rfl, H.o15 l0 l1 l2 l3 rfl hb hge⟩
  · rintro L a' w' ⟨s9, s10, s11, s12, s15, s16, s17, s18, s19, s20, s21, s22, rfl, H⟩ hr
    have hall := ready_nil H.z (by kernel_rfl) hr
    have h9 := H.e0 (hall 12 (by decide))
    have h10 := H.e1 (hall 13 (by decide))
    have h11 := H.e2 (hall 14 (by decide))
    have h12 := H.e3 (hall 15 (by decide))
    obtain ⟨⟨a0, a1, a2⟩, ⟨b0, b1, b2⟩, ⟨c0, c1, c2⟩, ⟨t0, t1, t2⟩, -⟩ := S12.mk HX.out H.bel
    have HB := Lib.hid H.bel
    obtain ⟨g9, hs9, -, -⟩ := id h9
    obtain ⟨g10, hs10, -, -⟩ := id h10
    obtain ⟨g11, hs11, -, -⟩ := id h11
    obtain ⟨g12, hs12, -, -⟩ := id h12
    subst hs9 hs10 hs11 hs12
    obtain ⟨k9, -⟩ := h9.cells
    obtain ⟨k10, -⟩ := h10.cells
    obtain ⟨k11, -⟩ := h11.cells
    obtain ⟨k12, -⟩ := h12.cells
    clear hall H h9 h10 h11 h12 hr
    have hk9 := Lib.hid k9
    have hk10 := Lib.hid k10
    have hk11 := Lib.hid k11
    have hk12 := Lib.hid k12
    obtain ⟨k90, k91⟩ := k9
    obtain ⟨k100, k101⟩ := k10
    obtain ⟨k110, k111⟩ := k11
    obtain ⟨k120, k121⟩ := k12
    go_wp2_with fail
    refine (HT.out _ _ _ _ ma mb mc).mono ?_
    rintro e w2 ⟨rfl, hg⟩
    have HB2 := Lib.hid (belG HB.out hg)
    obtain ⟨Sa, Sb, Sc, St, -⟩ := S12.mk HX.out HB2.out
    have Pa := P2.below hk9.out hg.below
    have Pb := P2.below hk10.out hg.below
    have Pc := P2.below hk11.out hg.below
    have Pt := P2.below hk12.out hg.below
    clear a0 a1 a2 b0 b1 b2 c0 c1 c2 t0 t1 t2 k90 k91 k100 k101 k110 k111 k120 k121 hg HB hk9 hk10 hk11 hk12
    obtain ⟨a0, a1, a2⟩ := T3.grown Sa
    obtain ⟨b0, b1, b2⟩ := T3.grown Sb
    obtain ⟨c0, c1, c2⟩ := T3.grown Sc
    obtain ⟨t0, t1, t2⟩ := T3.grown St
    obtain ⟨k90, k91⟩ := P2.grown Pa
    obtain ⟨k100, k101⟩ := P2.grown Pb
    obtain ⟨k110, k111⟩ := P2.grown Pc
    obtain ⟨k120, k121⟩ := P2.grown Pt
    clear Sa Sb Sc St Pa Pb Pc Pt
    go_wp2_with fail
    refine wp_region_quiet_grown (by kernel_rfl) (by kernel_rfl) ?_
    repeat (go_big_quiet_step (first | (go_at_call 40; refine Calls.grown_of (HT.out _ _ _ _ (by assumption) (by assumption) (by assumption)))))
    refine wpQuiet_nil ?_
    intro _ hw'
    obtain ⟨⟨nq, osq⟩, hw''⟩ := hw'
    subst hw''
    go_wp2_with (go_at_call 89; refine (HS.out _ _).mono ?_; rintro e w' ⟨rfl, rfl⟩)
    go_ret
    exact ⟨rfl, bel2 (bel2 HN.out HB2.out) (grB _ _)⟩
end Go.Proofs.YtcfplfjllnojoaaGreat
/-
  The model of cells, second part: one cell, the order of lists, equal lists.
  Conditions: the terms are valid; the slices read as the lists that are named.
-/
namespace Go.Proofs.YtcfplfjllnojoaaGreat
set_option linter.unusedSimpArgs false
set_option linter.unusedVariables false
open Go.ChangeShapes Go.WideShapes Go.ChangeAt Go.RowKit
open Go.Sort (grow)

/-- Three terms in a row, a term's block, and nothing that lay there when x was has changed. -/
abbrev S15 (x : World) (g i j k h : Nat) (a b c t : Tm) (w : World) : Prop :=
  (w.cell? ⟨g, i, none⟩ = some (.int .i64 a.1) ∧ w.cell? ⟨g, i + 1, none⟩ = some (.int .i64 a.2.1) ∧ w.cell? ⟨g, i + 2, none⟩ = some (.int .i64 a.2.2)) ∧
  (w.cell? ⟨g, j, none⟩ = some (.int .i64 b.1) ∧ w.cell? ⟨g, j + 1, none⟩ = some (.int .i64 b.2.1) ∧ w.cell? ⟨g, j + 2, none⟩ = some (.int .i64 b.2.2)) ∧
  (w.cell? ⟨g, k, none⟩ = some (.int .i64 c.1) ∧ w.cell? ⟨g, k + 1, none⟩ = some (.int .i64 c.2.1) ∧ w.cell? ⟨g, k + 2, none⟩ = some (.int .i64 c.2.2)) ∧
  (w.cell? ⟨h, 0, none⟩ = some (.int .i64 t.1) ∧ w.cell? ⟨h, 1, none⟩ = some (.int .i64 t.2.1) ∧ w.cell? ⟨h, 2, none⟩ = some (.int .i64 t.2.2)) ∧ Below x.heap.size x w
theorem S15.mk {x w : World} {g i j k h : Nat} {a b c t : Tm} (H : S15 x g i j k h a b c t x) (hb : Below x.heap.size x w) : S15 x g i j k h a b c t w :=
  ⟨X3.below H.1 hb, X3.below H.2.1 hb, X3.below H.2.2.1 hb, T3.below H.2.2.2.1 hb, hb⟩
theorem S15.bel {x w : World} {g i j k h : Nat} {a b c t : Tm} (H : S15 x g i j k h a b c t w) : Below x.heap.size x w := H.2.2.2.2
/-- The cell of a plane; none if a term is below it. -/
def ceX (p : Tm × Tm) (l : List Tm) : List Int := if okP p l l.length then zeL p l l.length else []
set_option maxHeartbeats 4000000 in
set_option maxRecDepth 100000 in
theorem ceCell_any (w : World) (B : Nat) (v : Value) (l : List Tm) (h : TmS w B v l) (hl : plB l = true) (i j k : Nat) (hi : i < l.length) (hj : j < l.length) (hk : k < l.length) (ht : tuT (td l i) (td l j) (td l k) ≠ 0) :
    Calls Tryz.prog 41 #[v, .int .i64 (i : Int), .int .i64 (j : Int), .int .i64 (k : Int)] w fun e w' => GivesI (ceX (plO l i j k) l) w e w' := by
  obtain ⟨A, cap, rfl, hm, hp⟩ := TmS.parts h
  have HP := Lib.hid hp
  have hle := (plB_le hl).2
  have HL := Lib.hid hl
  obtain ⟨n, hn⟩ : ∃ n, n = l.length := ⟨_, rfl⟩
  have HN := Lib.hid hn
  have HT := Lib.hid ht
  have HI := Lib.hid (And.intro hi (And.intro hj hk))
  rw [← hn] at hm hle hi hj hk ⊢
  obtain ⟨P, hP⟩ : ∃ P, P = plO l i j k := ⟨_, rfl⟩
  have HPD := Lib.hid hP
  rw [← hP]
  obtain ⟨i0, hi0, hz0, hz1, hz2⟩ := info_parts infoInt
  have HA := Lib.hid (fun m (hm : m < l.length) W => show Calls Tryz.prog 59 #[tmV (td l i), tmV (td l j), tmV (td l k), tmV (td l m)] W fun e w' => e = .returned (.int .i64 (hgtP P (td l m))) ∧ Below W.heap.size W w' by
    rw [hP]
    show Calls Tryz.prog 59 #[tmV (td l i), tmV (td l j), tmV (td l k), tmV (td l m)] W fun e w' => e = .returned (.int .i64 (htT (td l i) (nmT (td l i) (td l j) (td l k)) (td l m))) ∧ Below W.heap.size W w'
    rw [← ab_ht ht]
    exact ceAbove_any _ _ _ _ W (plB_at hl HI.out.1) (plB_at hl HI.out.2.1) (plB_at hl HI.out.2.2) (plB_at hl hm))
  have hi1 : (i : Int) < (n : Int) := by omega
  have hj1 : (j : Int) < (n : Int) := by omega
  have hk1 : (k : Int) < (n : Int) := by omega
  have hi2 : (0 : Int) ≤ (i : Int) := by omega
  have hj2 : (0 : Int) ≤ (j : Int) := by omega
  have hk2 : (0 : Int) ≤ (k : Int) := by omega
  clear hp h hn hm hl ht hP
  go_enter Tryz.func41, Tryz.ntmps41
  go_wp2
  go_loopw [9, 15] (fun o q wr => ∃ m : Nat, m ≤ n ∧ q = .int .i64 m ∧ IS wr w.heap.size o (zeL P l m) ∧ Hid (okP P l m) ∧ Below w.heap.size w wr) (fun _ q _ => n - (intOf q).toNat)
  case atStart => exact ⟨0, by omega, rfl, IS.nil_ _ _, Lib.hid (fun m hm => absurd hm (Nat.not_lt_zero m)), Below.refl _ _⟩
  case round =>
    obtain ⟨m, hm, rfl, ho, hok, hb⟩ := hrel
    by_cases hlt : m < n
    · have hml : m < l.length := by rw [← HN.out]; exact hlt
      obtain ⟨g, rfl, hc0⟩ := HP.out m hml
      obtain ⟨g1, hg1, ca0⟩ := HP.out i HI.out.1
      cases hg1
      obtain ⟨g1, hg1, cb0⟩ := HP.out j HI.out.2.1
      cases hg1
      obtain ⟨g1, hg1, cc0⟩ := HP.out k HI.out.2.2
      cases hg1
      have hc := X3.below hc0 hb
      have hbA := hb.alloc hb.size (.cells #[.int .i64 (td l m).1, .int .i64 (td l m).2.1, .int .i64 (td l m).2.2] 42)
      have hS := T3.new wr (td l m) 42
      have HX := Lib.hid (show S15 _ g (i * 3) (j * 3) (k * 3) wr.heap.size (td l i) (td l j) (td l k) (td l m) (wr.alloc (.cells #[.int .i64 (td l m).1, .int .i64 (td l m).2.1, .int .i64 (td l m).2.2] 42)) from ⟨X3.below ca0 hbA, X3.below cb0 hbA, X3.below cc0 hbA, hS, Below.refl _ _⟩)
      obtain ⟨c0, c1, c2⟩ := hc
      have HAm := Lib.hid (HA.out m hml)
      have HZ := Lib.hid (show (hgtP P (td l m) = 0 → zeL P l (m + 1) = zeL P l m ++ [(m : Int)]) ∧ (hgtP P (td l m) ≠ 0 → zeL P l (m + 1) = zeL P l m) from ⟨zeL_zero, zeL_not⟩)
      have HO := Lib.hid (show (0 ≤ hgtP P (td l m) → okP P l (m + 1)) ∧ (hgtP P (td l m) < 0 → ceX P l = []) from ⟨okP_next hok.out, fun hneg => by unfold ceX; rw [if_neg (okP_bad hml hneg)]⟩)
      obtain ⟨X, hX⟩ : ∃ X, X = hgtP P (td l m) := ⟨_, rfl⟩
      rw [← hX] at HAm HZ HO
      have ho' : IS (wr.alloc (.cells #[.int .i64 (td l m).1, .int .i64 (td l m).2.1, .int .i64 (td l m).2.2] 42)) w.heap.size u9 (zeL P l m) := ho.alloc _
      have hzl := zeL_len P l m
      clear hc0 ca0 cb0 cc0 hS hX
      go_wp2
      generalize wr.alloc (.cells #[.int .i64 (td l m).1, .int .i64 (td l m).2.1, .int .i64 (td l m).2.2] 42) = W1 at HX hbA ho' ⊢
      have ho1 := Lib.hid ho'
      have hb1 := Lib.hid hbA
      clear ho hb ho' hbA
      go_region_held3 (fun w' => S15 W1 g (i * 3) (j * 3) (k * 3) wr.heap.size (td l i) (td l j) (td l k) (td l m) w') (with_reducible exact S15.mk HX.out (by repeat' (first | with_reducible exact Below.refl _ _ | with_reducible exact S15.bel (by with_reducible assumption) | with_reducible assumption | with_reducible refine belD ?_ | with_reducible refine belDN ?_ _))) (first | (go_at_call 59; refine (HAm.out _).mono ?_; rintro e w' ⟨rfl, hbc⟩; have hbg := bel2 (S15.bel (by assumption)) hbc))
      have hbx := bel2 hb1.out hbg
      have ho2 := ho1.out.below hbg
      clear hbc HX HAm HA hbg hb1 ho1
      by_cases hneg : X < 0
      · have HE := Lib.hid (HO.out.2 hneg)
        clear HO HZ
        go_wp2
        go_ret
        exact ⟨_, rfl, by rw [HE.out]; exact IS.nil_ _ _, hbx⟩
      · have HK := Lib.hid (HO.out.1 (by omega))
        by_cases h0 : X = 0
        · have HE := Lib.hid (HZ.out.1 h0)
          subst h0
          have ho' : w'.ownsRow w.heap.size 3 1 u9 (zeL P l m).length (ints (zeL P l m)) := ho2
          clear HO HZ
          go_wp2_with (at_builtin; refine wpList_append_own _ rfl _ _ 36 rfl w.heap.size 3 i0 (.int .i64 0) 1 8 Tryz.underlying36 hi0 hz0 hz1 hz2 rfl (by decide) _ _ _ rfl (ho'.alloc _) ⟨w'.heap.size, 0, none⟩ 1 1 [.int .i64 (m : Int)] rfl rfl (one_new _ _) (by simp [Value.oneCell']) (by unfold maxLen; omega) (by omega) (by have := hbx.size; simp; omega) ?_; intro v' w1 hown' hgrow hnil)
          have hb' : Below w.heap.size w w1 := (hbx.alloc hbx.size _).grown hgrow (by have := hbx.size; simp; omega) (fun g' hg' => (World.ownsRow.lt ho' g' hg').1)
          have hrow := IS.snoc rfl hown'
          rw [← HE.out] at hrow
          go_wp2
          go_roundw
          case rel => exact ⟨m + 1, by omega, by go_num, hrow, HK, hb'⟩
          case measure => simp [intOf]; omega
        · have HE := Lib.hid (HZ.out.2 h0)
          clear HO HZ
          go_wp2
          go_roundw
          case rel => exact ⟨m + 1, by omega, by go_num, by rw [HE.out]; exact ho2, HK, hbx⟩
          case measure => simp [intOf]; omega
    · go_wp2
      go_ret
      obtain rfl : m = n := by omega
      refine ⟨_, rfl, ?_, hb⟩
      have hok' := hok.out
      rw [HN.out] at hok' ho
      unfold ceX
      rw [if_pos hok']
      exact ho
set_option maxHeartbeats 1000000 in
theorem l1Same_any (w : World) (B B' : Nat) (v v' : Value) (zs ys : List Int) (h : IS w B v zs) (h' : IS w B' v' ys) : Calls Tryz.prog 36 #[v, v'] w fun e w' => SaysB (decide (zs = ys)) w e w' := by
  obtain ⟨A, cap, rfl, hm, hp⟩ := h.parts
  obtain ⟨A', cap', rfl, hm', hp'⟩ := h'.parts
  have HP := Lib.hid hp
  have HP' := Lib.hid hp'
  obtain ⟨n, hn⟩ : ∃ n, n = zs.length := ⟨_, rfl⟩
  obtain ⟨n', hn'⟩ : ∃ n', n' = ys.length := ⟨_, rfl⟩
  have HN := Lib.hid hn
  have HN' := Lib.hid hn'
  rw [← hn] at hm ⊢
  rw [← hn'] at hm' ⊢
  unfold maxLen at hm hm'
  clear hp h hp' h' hn hn'
  by_cases hl : n = n'
  · subst hl
    go_enter Tryz.func36, Tryz.ntmps36
    go_wp2
    go_loopw [13] (fun i wr => ∃ k : Nat, k ≤ n ∧ i = .int .i64 k ∧ Hid (zs.take k = ys.take k) ∧ ∃ q, wr = w.drewN q) (fun i _ => n - (intOf i).toNat)
    case atStart => exact ⟨0, by omega, rfl, Lib.hid rfl, 0, rfl⟩
    case round =>
      obtain ⟨k, hk, rfl, hall, q, rfl⟩ := hrel
      by_cases hlt : k < n
      · obtain ⟨g, rfl, hc⟩ := HP.out k (by rw [← HN.out]; exact hlt)
        obtain ⟨g', rfl, hc'⟩ := HP'.out k (by rw [← HN'.out]; exact hlt)
        by_cases he : gd zs k = gd ys k
        · have HE := Lib.hid (eq_next zs ys k (by rw [← HN.out]; exact hlt) (by rw [← HN'.out]; exact hlt) hall.out he)
          rw [← he] at hc'
          clear he
          go_wp2
          go_quiet (fail)
          go_wp2
          go_roundw
          case rel => exact ⟨k + 1, by omega, by go_num, HE, _, by first | rfl | exact World.drewN_drewN _ _ _⟩
          case measure => simp [intOf]; omega
        · have HE := Lib.hid (eq_bad zs ys k he)
          go_wp2
          go_quiet (fail)
          go_wp2
          go_ret
          exact ⟨ret_bool (by simp [HE.out]), _, World.drewN_drewN _ _ _⟩
      · go_wp2
        go_ret
        have hk' : k = n := by omega
        subst hk'
        exact ⟨ret_bool (by
          have : zs = ys := eq_end zs ys (by rw [← HN.out, ← HN'.out]) (by rw [← HN.out]; exact hall.out)
          simp [this]), _, rfl⟩
  · have hne : ¬ (n : Int) = (n' : Int) := by omega
    go_enter Tryz.func36, Tryz.ntmps36
    go_wp2
    go_ret
    exact ⟨ret_bool (by
      have : zs ≠ ys := fun e => hl (by rw [HN.out, HN'.out, e])
      simp [this]), 0, rfl⟩
theorem lx_next {zs ys : List Int} {k : Nat} (h1 : k < zs.length) (h2 : k < ys.length) (h : gd zs k = gd ys k) (h0 : lxL zs ys = lxL (zs.drop k) (ys.drop k)) : lxL zs ys = lxL (zs.drop (k + 1)) (ys.drop (k + 1)) := by
  rw [h0, List.drop_eq_getElem_cons h1, List.drop_eq_getElem_cons h2]
  exact lxL_same (by rw [gd_eq zs k h1, gd_eq ys k h2] at h; exact h)
theorem lx_diff {zs ys : List Int} {k : Nat} (h1 : k < zs.length) (h2 : k < ys.length) (h : gd zs k ≠ gd ys k) (h0 : lxL zs ys = lxL (zs.drop k) (ys.drop k)) : lxL zs ys = decide (gd zs k < gd ys k) := by
  rw [h0, List.drop_eq_getElem_cons h1, List.drop_eq_getElem_cons h2, gd_eq zs k h1, gd_eq ys k h2]
  exact lxL_diff (by rw [gd_eq zs k h1, gd_eq ys k h2] at h; exact h)
theorem lx_short {zs ys : List Int} {k : Nat} (h1 : k < zs.length) (h2 : ys.length ≤ k) (h0 : lxL zs ys = lxL (zs.drop k) (ys.drop k)) : lxL zs ys = false := by
  rw [h0, List.drop_eq_getElem_cons h1, List.drop_eq_nil_of_le h2]; rfl
theorem lx_end {zs ys : List Int} (h0 : lxL zs ys = lxL (zs.drop zs.length) (ys.drop zs.length)) : lxL zs ys = decide (zs.length < ys.length) := by
  rw [h0, List.drop_eq_nil_of_le (Nat.le_refl _)]
  by_cases h : zs.length < ys.length
  · rw [List.drop_eq_getElem_cons h]; simp [lxL, h]
  · rw [List.drop_eq_nil_of_le (by omega)]; simp [lxL, h]
set_option maxHeartbeats 1000000 in
theorem ceBefore_any (w : World) (B B' : Nat) (v v' : Value) (zs ys : List Int) (h : IS w B v zs) (h' : IS w B' v' ys) : Calls Tryz.prog 56 #[v, v'] w fun e w' => e = .returned (.bool (lxL zs ys)) ∧ w = w' := by
  obtain ⟨A, cap, rfl, hm, hp⟩ := h.parts
  obtain ⟨A', cap', rfl, hm', hp'⟩ := h'.parts
  have HP := Lib.hid hp
  have HP' := Lib.hid hp'
  obtain ⟨n, hn⟩ : ∃ n, n = zs.length := ⟨_, rfl⟩
  obtain ⟨n', hn'⟩ : ∃ n', n' = ys.length := ⟨_, rfl⟩
  have HN := Lib.hid hn
  have HN' := Lib.hid hn'
  rw [← hn] at hm ⊢
  rw [← hn'] at hm' ⊢
  unfold maxLen at hm hm'
  clear hp h hp' h' hn hn'
  go_enter Tryz.func56, Tryz.ntmps56
  go_wp2
  go_loopw [9] (fun i wr => ∃ k : Nat, k ≤ n ∧ k ≤ n' ∧ i = .int .i64 k ∧ Hid (lxL zs ys = lxL (zs.drop k) (ys.drop k)) ∧ w = wr) (fun i _ => n - (intOf i).toNat)
  case atStart => exact ⟨0, by omega, by omega, rfl, Lib.hid rfl, rfl⟩
  case round =>
    obtain ⟨k, hk, hk2, rfl, hall, rfl⟩ := hrel
    by_cases hlt : k < n
    · obtain ⟨g, rfl, hc⟩ := HP.out k (by rw [← HN.out]; exact hlt)
      by_cases hl' : k < n'
      · obtain ⟨g', rfl, hc'⟩ := HP'.out k (by rw [← HN'.out]; exact hl')
        have hne : ¬ (k : Int) = (n' : Int) := by omega
        by_cases he : gd zs k = gd ys k
        · have HE := Lib.hid (lx_next (by rw [← HN.out]; exact hlt) (by rw [← HN'.out]; exact hl') he hall.out)
          rw [← he] at hc'
          clear he
          go_wp2
          go_roundw
          case rel => exact ⟨k + 1, by omega, by omega, by go_num, HE, by first | rfl | trivial⟩
          case measure => simp [intOf]; omega
        · have HE := Lib.hid (lx_diff (by rw [← HN.out]; exact hlt) (by rw [← HN'.out]; exact hl') he hall.out)
          have he2 : (gd zs k != gd ys k) = true := by simp [he]
          go_wp2
          go_ret
          exact ⟨ret_bool (by rw [HE.out]), rfl⟩
      · have HE := Lib.hid (lx_short (by rw [← HN.out]; exact hlt) (by rw [← HN'.out]; omega) hall.out)
        obtain rfl : k = n' := by omega
        go_wp2
        go_ret
        exact ⟨ret_bool (by rw [HE.out]), rfl⟩
    · go_wp2
      go_ret
      have hk' : k = n := by omega
      subst hk'
      exact ⟨ret_bool (by
        have := hall.out
        rw [HN.out] at this
        rw [lx_end this, ← HN.out, ← HN'.out]), rfl⟩
end Go.Proofs.YtcfplfjllnojoaaGreat
