/-
  The program's planes: steps between terms, the plane of three terms, the height of a term above a plane: what each call returns.
  Condition: the terms are valid.
-/
import Derived.Test.YtcfplfjllnojoaaGreatCeS
import Derived.Test.YtcfplfjllnojoaaGreatPlPt
import Derived.Laws.ResultCell
namespace Go.Proofs.YtcfplfjllnojoaaGreat
set_option linter.unusedSimpArgs false
set_option linter.unusedVariables false
open Go.ChangeShapes Go.WideShapes Go.ChangeAt Go.RowKit
open Go.Sort (grow)

/-- A plane as a value, and in a block. -/
abbrev lpV (p : Tm × Tm) : Value := .agg #[.int .i64 p.1.1, .int .i64 p.1.2.1, .int .i64 p.1.2.2, .int .i64 p.2.1, .int .i64 p.2.2.1, .int .i64 p.2.2.2]
def L6 (w : World) (g : Nat) (p : Tm × Tm) : Prop := w.heap[g]? = some (.cells #[.int .i64 p.1.1, .int .i64 p.1.2.1, .int .i64 p.1.2.2, .int .i64 p.2.1, .int .i64 p.2.2.1, .int .i64 p.2.2.2] 91 (0, 0))
theorem L6.cells {w : World} {g : Nat} {p : Tm × Tm} (h : L6 w g p) : (w.cell? ⟨g, 0, none⟩ = some (.int .i64 p.1.1) ∧ w.cell? ⟨g, 1, none⟩ = some (.int .i64 p.1.2.1) ∧ w.cell? ⟨g, 2, none⟩ = some (.int .i64 p.1.2.2) ∧ w.cell? ⟨g, 3, none⟩ = some (.int .i64 p.2.1) ∧ w.cell? ⟨g, 4, none⟩ = some (.int .i64 p.2.2.1) ∧ w.cell? ⟨g, 5, none⟩ = some (.int .i64 p.2.2.2)) ∧ w.frozen? ⟨g, 0, none⟩ = false ∧ w.frozen? ⟨g, 1, none⟩ = false ∧ w.frozen? ⟨g, 2, none⟩ = false ∧ w.frozen? ⟨g, 3, none⟩ = false ∧ w.frozen? ⟨g, 4, none⟩ = false ∧ w.frozen? ⟨g, 5, none⟩ = false := by
  unfold L6 at h
  refine ⟨⟨?_, ?_, ?_, ?_, ?_, ?_⟩, ?_, ?_, ?_, ?_, ?_, ?_⟩ <;> simp [World.cell?, World.frozen?, h]
theorem L6.below {w w' : World} {g : Nat} {p : Tm × Tm} (h : L6 w g p) (hb : Below w.heap.size w w') : L6 w' g p := (hb.block g (Array.getElem?_eq_some_iff.1 h).1).trans h
theorem L6.new (w : World) (p : Tm × Tm) : L6 (w.alloc (.cells #[.int .i64 p.1.1, .int .i64 p.1.2.1, .int .i64 p.1.2.2, .int .i64 p.2.1, .int .i64 p.2.2.1, .int .i64 p.2.2.2] 91)) w.heap.size p := heap_alloc_new w _
theorem L6.put {w : World} {g : Nat} {p : Tm × Tm} (h : L6 w g p) (q : Tm × Tm) : L6 ((((((w.setCell ⟨g, 0, none⟩ (.int .i64 q.1.1)).setCell ⟨g, 1, none⟩ (.int .i64 q.1.2.1)).setCell ⟨g, 2, none⟩ (.int .i64 q.1.2.2)).setCell ⟨g, 3, none⟩ (.int .i64 q.2.1)).setCell ⟨g, 4, none⟩ (.int .i64 q.2.2.1)).setCell ⟨g, 5, none⟩ (.int .i64 q.2.2.2)) g q :=
  heap_set_at _ (heap_set_at _ (heap_set_at _ (heap_set_at _ (heap_set_at _ (heap_set_at _ h)))))
theorem L6.off {w : World} {g : Nat} {p : Tm × Tm} (h : L6 w g p) {g' : Nat} (hn : g ≠ g') (j : Nat) (v : Value) : L6 (w.setCell ⟨g', j, none⟩ v) g p := (Below.heap_setCell _ _ _ g hn).trans h
theorem L6.loaded {w : World} {g : Nat} {p : Tm × Tm} (h : L6 w g p) : (loadVar 91 ⟨g, 0, none⟩).run Tryz.prog w = .ok (lpV p) w := by
  obtain ⟨⟨h1, h2, h3, h4, h5, h6⟩, -⟩ := h.cells
  simp [loadVar, go_sem, h1, h2, h3, h4, h5, h6]
theorem L6.results {w : World} {g : Nat} {t : Tm × Tm} (h : L6 w g t) {fn : Func} {p u : Tmp} {ts : Array Value} {v : Value} (hr : fn.results = #[.cell p 91, .tmp u]) (hp : ts.getD p undef = .pointer (some ⟨g, 0, none⟩)) (hu : ts.getD u undef = v) : (results fn ts).run Tryz.prog w = .ok (.tuple #[lpV t, v]) w := by
  rw [results_cell_tmp hr, hp, hu]
  rw [show (asAddr (Value.pointer (some ⟨g, 0, none⟩))).run Tryz.prog w = .ok ⟨g, 0, none⟩ w from rfl]
  simp only [Result.andThen]
  rw [L6.loaded h]
set_option maxHeartbeats 400000 in
theorem termStep_any (a b : Tm) (w : World) (ha : plT a = true) (hb : plT b = true) : Calls Tryz.prog 93 #[tmV a, tmV b] w fun e w' => e = .returned (tmV (stT a b)) ∧ Gr w w' := by
  have h1 := plT_parts ha
  have h2 := plT_parts hb
  obtain ⟨a1, a2, a3⟩ := a
  obtain ⟨b1, b2, b3⟩ := b
  dsimp only at h1 h2
  have q1 : IntKind.i64.wrap (b1 - a1) = b1 - a1 := IntWalk.i64_in _ (by omega)
  have q2 : IntKind.i64.wrap (b2 - a2) = b2 - a2 := IntWalk.i64_in _ (by omega)
  have q3 : IntKind.i64.wrap (b3 - a3) = b3 - a3 := IntWalk.i64_in _ (by omega)
  clear ha hb h1 h2
  go_enter Tryz.func93, Tryz.ntmps93
  go_wp2
  refine bodyPost_ret (T3.result (t := (b1 - a1, b2 - a2, b3 - a3)) (g := w.heap.size + 2) ?_ rfl rfl) rfl ⟨rfl, gr3 _ _ _ _⟩
  have := T3.new ((w.alloc (.cells #[.int .i64 a1, .int .i64 a2, .int .i64 a3] 42)).alloc (.cells #[.int .i64 b1, .int .i64 b2, .int .i64 b3] 42)) (b1 - a1, b2 - a2, b3 - a3) 42
  rwa [World.size_alloc, World.size_alloc] at this
abbrev oT (t : Tm) : Obj := .cells #[.int .i64 t.1, .int .i64 t.2.1, .int .i64 t.2.2] 42
abbrev oL : Obj := .cells #[.int .i64 0, .int .i64 0, .int .i64 0, .int .i64 0, .int .i64 0, .int .i64 0] 91
theorem pt_start (w : World) (a b c : Tm) : T3 ((((w.alloc (oT a)).alloc (oT b)).alloc (oT c)).alloc oL) w.heap.size a ∧ T3 ((((w.alloc (oT a)).alloc (oT b)).alloc (oT c)).alloc oL) (w.heap.size + 1) b ∧
    T3 ((((w.alloc (oT a)).alloc (oT b)).alloc (oT c)).alloc oL) (w.heap.size + 1 + 1) c ∧ L6 ((((w.alloc (oT a)).alloc (oT b)).alloc (oT c)).alloc oL) (w.heap.size + 1 + 1 + 1) ((0, 0, 0), (0, 0, 0)) ∧
    Below w.heap.size w ((((w.alloc (oT a)).alloc (oT b)).alloc (oT c)).alloc oL) := by
  have bA : ∀ (W : World) (o : Obj), Below W.heap.size W (W.alloc o) := fun W o => (Below.refl _ _).alloc (Nat.le_refl _) o
  have h0 := belA1 (belA1 (belA1 (belA1 (Below.refl w.heap.size w) (oT a)) (oT b)) (oT c)) oL
  have h1 := T3.new w a 42
  generalize hw1 : w.alloc (oT a) = w1 at h0 h1 ⊢
  have s1 : w1.heap.size = w.heap.size + 1 := by rw [← hw1]; simp
  have h2 := T3.new w1 b 42
  have h1' := T3.below h1 (bA w1 (oT b))
  generalize hw2 : w1.alloc (oT b) = w2 at h0 h2 h1' ⊢
  have s2 : w2.heap.size = w.heap.size + 1 + 1 := by rw [← hw2]; simp [s1]
  have h3 := T3.new w2 c 42
  have h2' := T3.below h2 (bA w2 (oT c))
  have h1'' := T3.below h1' (bA w2 (oT c))
  generalize hw3 : w2.alloc (oT c) = w3 at h0 h3 h2' h1'' ⊢
  have s3 : w3.heap.size = w.heap.size + 1 + 1 + 1 := by rw [← hw3]; simp [s2]
  have h4 := L6.new w3 ((0, 0, 0), (0, 0, 0))
  rw [s1] at h2'; rw [s2] at h3; rw [s3] at h4
  exact ⟨T3.below h1'' (bA w3 _), T3.below h2' (bA w3 _), T3.below h3 (bA w3 _), h4, h0⟩
/-- A new block of 3 integers: from block N on, it holds p. -/
def Bt (N : Nat) (w : World) (v : Value) (p : Tm) : Prop := ∃ g, v = .pointer (some ⟨g, 0, none⟩) ∧ N ≤ g ∧ w.heap[g]? = some (.cells #[.int .i64 p.1, .int .i64 p.2.1, .int .i64 p.2.2] 42 (0, 0))
theorem Bt.gr {N : Nat} {w w' : World} {v : Value} {p : Tm} (h : Bt N w v p) (hg : Below w.heap.size w w') : Bt N w' v p := by
  obtain ⟨g, h1, h2, h3⟩ := h
  exact ⟨g, h1, h2, (hg.block g (Array.getElem?_eq_some_iff.1 h3).1).trans h3⟩
theorem Bt.new {N : Nat} {w : World} (h : N ≤ w.heap.size) : Bt N (w.alloc (.cells #[.int .i64 0, .int .i64 0, .int .i64 0] 42)) (.pointer (some ⟨w.heap.size, 0, none⟩)) (0, 0, 0) :=
  ⟨_, rfl, h, heap_alloc_new w _⟩
theorem Bt.ne_new {N : Nat} {w : World} {v : Value} {p : Tm} (h : Bt N w v p) : v ≠ .pointer (some ⟨w.heap.size, 0, none⟩) := by
  obtain ⟨g, rfl, h2, h3⟩ := h
  intro e
  have h4 := (Array.getElem?_eq_some_iff.1 h3).1
  simp only [Value.pointer.injEq, Option.some.injEq, Addr.mk.injEq] at e
  omega
theorem Bt.at {N g : Nat} {w : World} {p : Tm} (h : Bt N w (.pointer (some ⟨g, 0, none⟩)) p) : N ≤ g ∧ w.heap[g]? = some (.cells #[.int .i64 p.1, .int .i64 p.2.1, .int .i64 p.2.2] 42 (0, 0)) := by
  obtain ⟨g', h1, h2, h3⟩ := h
  simp only [Value.pointer.injEq, Option.some.injEq, Addr.mk.injEq] at h1
  obtain ⟨rfl, -⟩ := h1
  exact ⟨h2, h3⟩
theorem Bt.cells {N g : Nat} {w : World} {p : Tm} (h : Bt N w (.pointer (some ⟨g, 0, none⟩)) p) : (w.cell? ⟨g, 0, none⟩ = some (.int .i64 p.1) ∧ w.cell? ⟨g, 1, none⟩ = some (.int .i64 p.2.1) ∧ w.cell? ⟨g, 2, none⟩ = some (.int .i64 p.2.2)) ∧ w.frozen? ⟨g, 0, none⟩ = false ∧ w.frozen? ⟨g, 1, none⟩ = false ∧ w.frozen? ⟨g, 2, none⟩ = false := by
  have h3 := h.at.2
  refine ⟨⟨?_, ?_, ?_⟩, ?_, ?_, ?_⟩ <;> simp [World.cell?, World.frozen?, h3]
theorem Bt.put {N g : Nat} {w : World} {p : Tm} (h : Bt N w (.pointer (some ⟨g, 0, none⟩)) p) (q : Tm) : Bt N (((w.setCell ⟨g, 0, none⟩ (.int .i64 q.1)).setCell ⟨g, 1, none⟩ (.int .i64 q.2.1)).setCell ⟨g, 2, none⟩ (.int .i64 q.2.2)) (.pointer (some ⟨g, 0, none⟩)) q := by
  obtain ⟨h1, h2⟩ := h.at
  exact ⟨g, rfl, h1, heap_set_at _ (heap_set_at _ (heap_set_at _ h2))⟩
theorem Bt.off {N g : Nat} {w : World} {v : Value} {p : Tm} (h : Bt N w v p) (hne : v ≠ .pointer (some ⟨g, 0, none⟩)) {u0 u1 u2 : Value} : Bt N (((w.setCell ⟨g, 0, none⟩ u0).setCell ⟨g, 1, none⟩ u1).setCell ⟨g, 2, none⟩ u2) v p := by
  obtain ⟨g', rfl, h2, h3⟩ := h
  have hn : g' ≠ g := fun e => hne (by rw [e])
  refine ⟨g', rfl, h2, ?_⟩
  iterate 3 rw [Below.heap_setCell _ _ _ g' hn]
  exact h3
abbrev actPt (a b c : Tm) (N : Nat) (s8 s9 s11 s12 s13 s14 s15 s16 : Value) : Act := { tmps := #[tmV a, tmV b, tmV c, .pointer (some ⟨N, 0, none⟩), .pointer (some ⟨N + 1, 0, none⟩), .pointer (some ⟨N + 1 + 1, 0, none⟩), .pointer (some ⟨N + 1 + 1 + 1, 0, none⟩), .bool false, s8, s9, undef, s11, s12, s13, s14, s15, s16, undef, undef, undef, undef, undef, undef, undef, undef, undef, undef, undef, undef, undef, undef, undef, undef, undef, undef, undef, undef, undef, undef, undef, undef, undef, undef, undef, undef, undef, undef, undef, undef, undef, undef, undef, undef, undef, undef, undef, undef, undef, undef, undef, undef, undef, undef, undef, undef, undef, undef, undef, undef, undef, undef], defers := [] }
/-- What is known when some operations are done. -/
structure IvPt (x : World) (a b c : Tm) (N : Nat) (L : Array Bool) (s8 s9 s11 s12 s13 s14 s15 s16 : Value) (w : World) : Prop where
  z : L.size = 10
  bel : Below x.heap.size x w
  c0 : (L.getD 0 false = true) → s11 = tmV a
  c1 : (L.getD 1 false = true) → s12 = tmV b
  c2 : (L.getD 2 false = true) → s13 = tmV (stT a b)
  c3 : (L.getD 3 false = true) → s14 = tmV a
  c4 : (L.getD 4 false = true) → s15 = tmV c
  c5 : (L.getD 5 false = true) → s16 = tmV (stT a c)
  b6 : (L.getD 6 false = true) → ∃ p, Bt x.heap.size w s8 p
  b7 : (L.getD 7 false = true) → ∃ p, Bt x.heap.size w s9 p
  d6_7 : (L.getD 6 false = true) → (L.getD 7 false = true) → s8 ≠ s9
  f8 : (L.getD 8 false = true) → (L.getD 6 false = true)
  e8 : (L.getD 8 false = true) → Bt x.heap.size w s8 (stT a b)
  f9 : (L.getD 9 false = true) → (L.getD 7 false = true)
  e9 : (L.getD 9 false = true) → Bt x.heap.size w s9 (stT a c)
theorem IvPt.start (x : World) (a b c : Tm) (N : Nat) (s8 s9 s11 s12 s13 s14 s15 s16 : Value) : IvPt x a b c N (Array.replicate 10 false) s8 s9 s11 s12 s13 s14 s15 s16 x.drew where
  z := rfl
  bel := belD (Below.refl _ _)
  c0 := fun h => by simp at h
  c1 := fun h => by simp at h
  c2 := fun h => by simp at h
  c3 := fun h => by simp at h
  c4 := fun h => by simp at h
  c5 := fun h => by simp at h
  b6 := fun h => by simp at h
  b7 := fun h => by simp at h
  d6_7 := fun h => by simp at h
  f8 := fun h => by simp at h
  e8 := fun h => by simp at h
  f9 := fun h => by simp at h
  e9 := fun h => by simp at h
theorem IvPt.o0 {x : World} {a b c : Tm} {N : Nat} {L : Array Bool} {s8 s9 s11 s12 s13 s14 s15 s16 : Value} {w : World} (H : IvPt x a b c N L s8 s9 s11 s12 s13 s14 s15 s16 w)  : IvPt x a b c N (L.setIfInBounds 0 true) s8 s9 (tmV a) s12 s13 s14 s15 s16 w where
  z := by rw [Array.size_setIfInBounds]; exact H.z
  bel := H.bel
  c0 := fun _ => rfl
  c1 := fun h => H.c1 (by rwa [getD_set_ne _ (by decide)] at h)
  c2 := fun h => H.c2 (by rwa [getD_set_ne _ (by decide)] at h)
  c3 := fun h => H.c3 (by rwa [getD_set_ne _ (by decide)] at h)
  c4 := fun h => H.c4 (by rwa [getD_set_ne _ (by decide)] at h)
  c5 := fun h => H.c5 (by rwa [getD_set_ne _ (by decide)] at h)
  b6 := fun h => (H.b6 (by rwa [getD_set_ne _ (by decide)] at h))
  b7 := fun h => (H.b7 (by rwa [getD_set_ne _ (by decide)] at h))
  d6_7 := fun h h' => H.d6_7 (by rwa [getD_set_ne _ (by decide)] at h) (by rwa [getD_set_ne _ (by decide)] at h')
  f8 := fun h => by rw [getD_set_ne _ (by decide)]; exact H.f8 (by rwa [getD_set_ne _ (by decide)] at h)
  e8 := fun h => (H.e8 (by rwa [getD_set_ne _ (by decide)] at h))
  f9 := fun h => by rw [getD_set_ne _ (by decide)]; exact H.f9 (by rwa [getD_set_ne _ (by decide)] at h)
  e9 := fun h => (H.e9 (by rwa [getD_set_ne _ (by decide)] at h))
theorem IvPt.o1 {x : World} {a b c : Tm} {N : Nat} {L : Array Bool} {s8 s9 s11 s12 s13 s14 s15 s16 : Value} {w : World} (H : IvPt x a b c N L s8 s9 s11 s12 s13 s14 s15 s16 w)  : IvPt x a b c N (L.setIfInBounds 1 true) s8 s9 s11 (tmV b) s13 s14 s15 s16 w where
  z := by rw [Array.size_setIfInBounds]; exact H.z
  bel := H.bel
  c0 := fun h => H.c0 (by rwa [getD_set_ne _ (by decide)] at h)
  c1 := fun _ => rfl
  c2 := fun h => H.c2 (by rwa [getD_set_ne _ (by decide)] at h)
  c3 := fun h => H.c3 (by rwa [getD_set_ne _ (by decide)] at h)
  c4 := fun h => H.c4 (by rwa [getD_set_ne _ (by decide)] at h)
  c5 := fun h => H.c5 (by rwa [getD_set_ne _ (by decide)] at h)
  b6 := fun h => (H.b6 (by rwa [getD_set_ne _ (by decide)] at h))
  b7 := fun h => (H.b7 (by rwa [getD_set_ne _ (by decide)] at h))
  d6_7 := fun h h' => H.d6_7 (by rwa [getD_set_ne _ (by decide)] at h) (by rwa [getD_set_ne _ (by decide)] at h')
  f8 := fun h => by rw [getD_set_ne _ (by decide)]; exact H.f8 (by rwa [getD_set_ne _ (by decide)] at h)
  e8 := fun h => (H.e8 (by rwa [getD_set_ne _ (by decide)] at h))
  f9 := fun h => by rw [getD_set_ne _ (by decide)]; exact H.f9 (by rwa [getD_set_ne _ (by decide)] at h)
  e9 := fun h => (H.e9 (by rwa [getD_set_ne _ (by decide)] at h))
theorem IvPt.o2 {x : World} {a b c : Tm} {N : Nat} {L : Array Bool} {s8 s9 s11 s12 s13 s14 s15 s16 : Value} {w : World} (H : IvPt x a b c N L s8 s9 s11 s12 s13 s14 s15 s16 w) {w' : World} (hg : Below w.heap.size w w') : IvPt x a b c N (L.setIfInBounds 2 true) s8 s9 s11 s12 (tmV (stT a b)) s14 s15 s16 w' where
  z := by rw [Array.size_setIfInBounds]; exact H.z
  bel := bel2 H.bel hg
  c0 := fun h => H.c0 (by rwa [getD_set_ne _ (by decide)] at h)
  c1 := fun h => H.c1 (by rwa [getD_set_ne _ (by decide)] at h)
  c2 := fun _ => rfl
  c3 := fun h => H.c3 (by rwa [getD_set_ne _ (by decide)] at h)
  c4 := fun h => H.c4 (by rwa [getD_set_ne _ (by decide)] at h)
  c5 := fun h => H.c5 (by rwa [getD_set_ne _ (by decide)] at h)
  b6 := fun h => (H.b6 (by rwa [getD_set_ne _ (by decide)] at h)).imp fun _ k => k.gr hg
  b7 := fun h => (H.b7 (by rwa [getD_set_ne _ (by decide)] at h)).imp fun _ k => k.gr hg
  d6_7 := fun h h' => H.d6_7 (by rwa [getD_set_ne _ (by decide)] at h) (by rwa [getD_set_ne _ (by decide)] at h')
  f8 := fun h => by rw [getD_set_ne _ (by decide)]; exact H.f8 (by rwa [getD_set_ne _ (by decide)] at h)
  e8 := fun h => (H.e8 (by rwa [getD_set_ne _ (by decide)] at h)).gr hg
  f9 := fun h => by rw [getD_set_ne _ (by decide)]; exact H.f9 (by rwa [getD_set_ne _ (by decide)] at h)
  e9 := fun h => (H.e9 (by rwa [getD_set_ne _ (by decide)] at h)).gr hg
theorem IvPt.o3 {x : World} {a b c : Tm} {N : Nat} {L : Array Bool} {s8 s9 s11 s12 s13 s14 s15 s16 : Value} {w : World} (H : IvPt x a b c N L s8 s9 s11 s12 s13 s14 s15 s16 w)  : IvPt x a b c N (L.setIfInBounds 3 true) s8 s9 s11 s12 s13 (tmV a) s15 s16 w where
  z := by rw [Array.size_setIfInBounds]; exact H.z
  bel := H.bel
  c0 := fun h => H.c0 (by rwa [getD_set_ne _ (by decide)] at h)
  c1 := fun h => H.c1 (by rwa [getD_set_ne _ (by decide)] at h)
  c2 := fun h => H.c2 (by rwa [getD_set_ne _ (by decide)] at h)
  c3 := fun _ => rfl
  c4 := fun h => H.c4 (by rwa [getD_set_ne _ (by decide)] at h)
  c5 := fun h => H.c5 (by rwa [getD_set_ne _ (by decide)] at h)
  b6 := fun h => (H.b6 (by rwa [getD_set_ne _ (by decide)] at h))
  b7 := fun h => (H.b7 (by rwa [getD_set_ne _ (by decide)] at h))
  d6_7 := fun h h' => H.d6_7 (by rwa [getD_set_ne _ (by decide)] at h) (by rwa [getD_set_ne _ (by decide)] at h')
  f8 := fun h => by rw [getD_set_ne _ (by decide)]; exact H.f8 (by rwa [getD_set_ne _ (by decide)] at h)
  e8 := fun h => (H.e8 (by rwa [getD_set_ne _ (by decide)] at h))
  f9 := fun h => by rw [getD_set_ne _ (by decide)]; exact H.f9 (by rwa [getD_set_ne _ (by decide)] at h)
  e9 := fun h => (H.e9 (by rwa [getD_set_ne _ (by decide)] at h))
theorem IvPt.o4 {x : World} {a b c : Tm} {N : Nat} {L : Array Bool} {s8 s9 s11 s12 s13 s14 s15 s16 : Value} {w : World} (H : IvPt x a b c N L s8 s9 s11 s12 s13 s14 s15 s16 w)  : IvPt x a b c N (L.setIfInBounds 4 true) s8 s9 s11 s12 s13 s14 (tmV c) s16 w where
  z := by rw [Array.size_setIfInBounds]; exact H.z
  bel := H.bel
  c0 := fun h => H.c0 (by rwa [getD_set_ne _ (by decide)] at h)
  c1 := fun h => H.c1 (by rwa [getD_set_ne _ (by decide)] at h)
  c2 := fun h => H.c2 (by rwa [getD_set_ne _ (by decide)] at h)
  c3 := fun h => H.c3 (by rwa [getD_set_ne _ (by decide)] at h)
  c4 := fun _ => rfl
  c5 := fun h => H.c5 (by rwa [getD_set_ne _ (by decide)] at h)
  b6 := fun h => (H.b6 (by rwa [getD_set_ne _ (by decide)] at h))
  b7 := fun h => (H.b7 (by rwa [getD_set_ne _ (by decide)] at h))
  d6_7 := fun h h' => H.d6_7 (by rwa [getD_set_ne _ (by decide)] at h) (by rwa [getD_set_ne _ (by decide)] at h')
  f8 := fun h => by rw [getD_set_ne _ (by decide)]; exact H.f8 (by rwa [getD_set_ne _ (by decide)] at h)
  e8 := fun h => (H.e8 (by rwa [getD_set_ne _ (by decide)] at h))
  f9 := fun h => by rw [getD_set_ne _ (by decide)]; exact H.f9 (by rwa [getD_set_ne _ (by decide)] at h)
  e9 := fun h => (H.e9 (by rwa [getD_set_ne _ (by decide)] at h))
theorem IvPt.o5 {x : World} {a b c : Tm} {N : Nat} {L : Array Bool} {s8 s9 s11 s12 s13 s14 s15 s16 : Value} {w : World} (H : IvPt x a b c N L s8 s9 s11 s12 s13 s14 s15 s16 w) {w' : World} (hg : Below w.heap.size w w') : IvPt x a b c N (L.setIfInBounds 5 true) s8 s9 s11 s12 s13 s14 s15 (tmV (stT a c)) w' where
  z := by rw [Array.size_setIfInBounds]; exact H.z
  bel := bel2 H.bel hg
  c0 := fun h => H.c0 (by rwa [getD_set_ne _ (by decide)] at h)
  c1 := fun h => H.c1 (by rwa [getD_set_ne _ (by decide)] at h)
  c2 := fun h => H.c2 (by rwa [getD_set_ne _ (by decide)] at h)
  c3 := fun h => H.c3 (by rwa [getD_set_ne _ (by decide)] at h)
  c4 := fun h => H.c4 (by rwa [getD_set_ne _ (by decide)] at h)
  c5 := fun _ => rfl
  b6 := fun h => (H.b6 (by rwa [getD_set_ne _ (by decide)] at h)).imp fun _ k => k.gr hg
  b7 := fun h => (H.b7 (by rwa [getD_set_ne _ (by decide)] at h)).imp fun _ k => k.gr hg
  d6_7 := fun h h' => H.d6_7 (by rwa [getD_set_ne _ (by decide)] at h) (by rwa [getD_set_ne _ (by decide)] at h')
  f8 := fun h => by rw [getD_set_ne _ (by decide)]; exact H.f8 (by rwa [getD_set_ne _ (by decide)] at h)
  e8 := fun h => (H.e8 (by rwa [getD_set_ne _ (by decide)] at h)).gr hg
  f9 := fun h => by rw [getD_set_ne _ (by decide)]; exact H.f9 (by rwa [getD_set_ne _ (by decide)] at h)
  e9 := fun h => (H.e9 (by rwa [getD_set_ne _ (by decide)] at h)).gr hg
theorem IvPt.o6 {x : World} {a b c : Tm} {N : Nat} {L : Array Bool} {s8 s9 s11 s12 s13 s14 s15 s16 : Value} {w : World} (H : IvPt x a b c N L s8 s9 s11 s12 s13 s14 s15 s16 w) (hN : L.getD 6 true = false) : IvPt x a b c N (L.setIfInBounds 6 true) (.pointer (some ⟨w.heap.size, 0, none⟩)) s9 s11 s12 s13 s14 s15 s16 (w.alloc (.cells #[.int .i64 0, .int .i64 0, .int .i64 0] 42)) where
  z := by rw [Array.size_setIfInBounds]; exact H.z
  bel := belA1 H.bel _
  c0 := fun h => H.c0 (by rwa [getD_set_ne _ (by decide)] at h)
  c1 := fun h => H.c1 (by rwa [getD_set_ne _ (by decide)] at h)
  c2 := fun h => H.c2 (by rwa [getD_set_ne _ (by decide)] at h)
  c3 := fun h => H.c3 (by rwa [getD_set_ne _ (by decide)] at h)
  c4 := fun h => H.c4 (by rwa [getD_set_ne _ (by decide)] at h)
  c5 := fun h => H.c5 (by rwa [getD_set_ne _ (by decide)] at h)
  b6 := fun _ => ⟨_, Bt.new H.bel.size⟩
  b7 := fun h => (H.b7 (by rwa [getD_set_ne _ (by decide)] at h)).imp fun _ k => k.gr ((Below.refl _ _).alloc (Nat.le_refl _) _)
  d6_7 := fun h h' e => by obtain ⟨p, k⟩ := H.b7 (by rwa [getD_set_ne _ (by decide)] at h'); exact k.ne_new e.symm
  f8 := fun _ => getD_set_same H.z (by decide)
  e8 := fun h => (notl hN (H.f8 (by rwa [getD_set_ne _ (by decide)] at h))).elim
  f9 := fun h => by rw [getD_set_ne _ (by decide)]; exact H.f9 (by rwa [getD_set_ne _ (by decide)] at h)
  e9 := fun h => (H.e9 (by rwa [getD_set_ne _ (by decide)] at h)).gr ((Below.refl _ _).alloc (Nat.le_refl _) _)
theorem IvPt.o7 {x : World} {a b c : Tm} {N : Nat} {L : Array Bool} {s8 s9 s11 s12 s13 s14 s15 s16 : Value} {w : World} (H : IvPt x a b c N L s8 s9 s11 s12 s13 s14 s15 s16 w) (hN : L.getD 7 true = false) : IvPt x a b c N (L.setIfInBounds 7 true) s8 (.pointer (some ⟨w.heap.size, 0, none⟩)) s11 s12 s13 s14 s15 s16 (w.alloc (.cells #[.int .i64 0, .int .i64 0, .int .i64 0] 42)) where
  z := by rw [Array.size_setIfInBounds]; exact H.z
  bel := belA1 H.bel _
  c0 := fun h => H.c0 (by rwa [getD_set_ne _ (by decide)] at h)
  c1 := fun h => H.c1 (by rwa [getD_set_ne _ (by decide)] at h)
  c2 := fun h => H.c2 (by rwa [getD_set_ne _ (by decide)] at h)
  c3 := fun h => H.c3 (by rwa [getD_set_ne _ (by decide)] at h)
  c4 := fun h => H.c4 (by rwa [getD_set_ne _ (by decide)] at h)
  c5 := fun h => H.c5 (by rwa [getD_set_ne _ (by decide)] at h)
  b6 := fun h => (H.b6 (by rwa [getD_set_ne _ (by decide)] at h)).imp fun _ k => k.gr ((Below.refl _ _).alloc (Nat.le_refl _) _)
  b7 := fun _ => ⟨_, Bt.new H.bel.size⟩
  d6_7 := fun h h' e => by obtain ⟨p, k⟩ := H.b6 (by rwa [getD_set_ne _ (by decide)] at h); exact k.ne_new e
  f8 := fun h => by rw [getD_set_ne _ (by decide)]; exact H.f8 (by rwa [getD_set_ne _ (by decide)] at h)
  e8 := fun h => (H.e8 (by rwa [getD_set_ne _ (by decide)] at h)).gr ((Below.refl _ _).alloc (Nat.le_refl _) _)
  f9 := fun _ => getD_set_same H.z (by decide)
  e9 := fun h => (notl hN (H.f9 (by rwa [getD_set_ne _ (by decide)] at h))).elim
theorem IvPt.o8 {x : World} {a b c : Tm} {N : Nat} {L : Array Bool} {s8 s9 s11 s12 s13 s14 s15 s16 : Value} {w : World} (H : IvPt x a b c N L s8 s9 s11 s12 s13 s14 s15 s16 w) (l6 : L.getD 6 false = true) (l7 : L.getD 7 false = true) {g : Nat} (hs : s8 = .pointer (some ⟨g, 0, none⟩)) {p : _} (hb : Bt x.heap.size w s8 p) (hge : x.heap.size ≤ g) : IvPt x a b c N (L.setIfInBounds 8 true) s8 s9 s11 s12 s13 s14 s15 s16 (((w.setCell ⟨g, 0, none⟩ (.int .i64 (stT a b).1)).setCell ⟨g, 1, none⟩ (.int .i64 (stT a b).2.1)).setCell ⟨g, 2, none⟩ (.int .i64 (stT a b).2.2)) where
  z := by rw [Array.size_setIfInBounds]; exact H.z
  bel := belS (belS (belS (H.bel) hge _ _) hge _ _) hge _ _
  c0 := fun h => H.c0 (by rwa [getD_set_ne _ (by decide)] at h)
  c1 := fun h => H.c1 (by rwa [getD_set_ne _ (by decide)] at h)
  c2 := fun h => H.c2 (by rwa [getD_set_ne _ (by decide)] at h)
  c3 := fun h => H.c3 (by rwa [getD_set_ne _ (by decide)] at h)
  c4 := fun h => H.c4 (by rwa [getD_set_ne _ (by decide)] at h)
  c5 := fun h => H.c5 (by rwa [getD_set_ne _ (by decide)] at h)
  b6 := fun _ => ⟨_, by rw [hs]; exact Bt.put (hs ▸ hb) (stT a b)⟩
  b7 := fun h => (H.b7 (by rwa [getD_set_ne _ (by decide)] at h)).imp fun _ k => k.off (fun e => H.d6_7 l6 l7 (by rw [hs, e]))
  d6_7 := fun h h' => H.d6_7 (by rwa [getD_set_ne _ (by decide)] at h) (by rwa [getD_set_ne _ (by decide)] at h')
  f8 := fun _ => by rw [getD_set_ne _ (by decide)]; exact l6
  e8 := fun _ => by rw [hs]; exact Bt.put (hs ▸ hb) _
  f9 := fun h => by rw [getD_set_ne _ (by decide)]; exact H.f9 (by rwa [getD_set_ne _ (by decide)] at h)
  e9 := fun h => (H.e9 (by rwa [getD_set_ne _ (by decide)] at h)).off (fun e => H.d6_7 l6 l7 (by rw [hs, e]))
theorem IvPt.o9 {x : World} {a b c : Tm} {N : Nat} {L : Array Bool} {s8 s9 s11 s12 s13 s14 s15 s16 : Value} {w : World} (H : IvPt x a b c N L s8 s9 s11 s12 s13 s14 s15 s16 w) (l6 : L.getD 6 false = true) (l7 : L.getD 7 false = true) {g : Nat} (hs : s9 = .pointer (some ⟨g, 0, none⟩)) {p : _} (hb : Bt x.heap.size w s9 p) (hge : x.heap.size ≤ g) : IvPt x a b c N (L.setIfInBounds 9 true) s8 s9 s11 s12 s13 s14 s15 s16 (((w.setCell ⟨g, 0, none⟩ (.int .i64 (stT a c).1)).setCell ⟨g, 1, none⟩ (.int .i64 (stT a c).2.1)).setCell ⟨g, 2, none⟩ (.int .i64 (stT a c).2.2)) where
  z := by rw [Array.size_setIfInBounds]; exact H.z
  bel := belS (belS (belS (H.bel) hge _ _) hge _ _) hge _ _
  c0 := fun h => H.c0 (by rwa [getD_set_ne _ (by decide)] at h)
  c1 := fun h => H.c1 (by rwa [getD_set_ne _ (by decide)] at h)
  c2 := fun h => H.c2 (by rwa [getD_set_ne _ (by decide)] at h)
  c3 := fun h => H.c3 (by rwa [getD_set_ne _ (by decide)] at h)
  c4 := fun h => H.c4 (by rwa [getD_set_ne _ (by decide)] at h)
  c5 := fun h => H.c5 (by rwa [getD_set_ne _ (by decide)] at h)
  b6 := fun h => (H.b6 (by rwa [getD_set_ne _ (by decide)] at h)).imp fun _ k => k.off (fun e => H.d6_7 l6 l7 (by rw [hs, e]))
  b7 := fun _ => ⟨_, by rw [hs]; exact Bt.put (hs ▸ hb) (stT a c)⟩
  d6_7 := fun h h' => H.d6_7 (by rwa [getD_set_ne _ (by decide)] at h) (by rwa [getD_set_ne _ (by decide)] at h')
  f8 := fun h => by rw [getD_set_ne _ (by decide)]; exact H.f8 (by rwa [getD_set_ne _ (by decide)] at h)
  e8 := fun h => (H.e8 (by rwa [getD_set_ne _ (by decide)] at h)).off (fun e => H.d6_7 l6 l7 (by rw [hs, e]))
  f9 := fun _ => by rw [getD_set_ne _ (by decide)]; exact l7
  e9 := fun _ => by rw [hs]; exact Bt.put (hs ▸ hb) _

/-- What planeThrough returns. -/
def plnB (a b c : Tm) : Bool := decide (tuT a b c ≠ 0)
def plnV (a b c : Tm) : Tm × Tm := if tuT a b c ≠ 0 then (a, nmT a b c) else ((0, 0, 0), (0, 0, 0))
theorem pln_zero {a b c : Tm} (h : (noT a b c).2.2 = 0) : plnB a b c = false ∧ plnV a b c = ((0, 0, 0), (0, 0, 0)) := by
  rw [noT_tu] at h; unfold plnB plnV; simp [h]
theorem pln_neg {a b c : Tm} (h : (noT a b c).2.2 < 0) : plnB a b c = true ∧ plnV a b c = (a, ngT (noT a b c)) := by
  have h' := h; rw [noT_tu] at h'
  unfold plnB plnV nmT; rw [if_pos (by omega), if_pos h]; exact ⟨by simp; omega, rfl⟩
theorem pln_pos {a b c : Tm} (h : 0 < (noT a b c).2.2) : plnB a b c = true ∧ plnV a b c = (a, noT a b c) := by
  have h' := h; rw [noT_tu] at h'
  unfold plnB plnV nmT; rw [if_pos (by omega), if_neg (by omega)]; exact ⟨by simp; omega, rfl⟩
set_option maxHeartbeats 4000000 in
set_option maxRecDepth 100000 in
theorem planeThrough_any (a b c : Tm) (w : World) (ha : plT a = true) (hb : plT b = true) (hc : plT c = true) : Calls Tryz.prog 92 #[tmV a, tmV b, tmV c] w fun e w' => e = .returned (.tuple #[lpV (plnV a b c), .bool (plnB a b c)]) ∧ Below w.heap.size w w' := by
  have HV := Lib.hid (And.intro ha (And.intro hb hc))
  obtain ⟨hA0, hB0, hC0, hR0, hN0⟩ := pt_start w a b c
  have HA0 := Lib.hid hA0
  have HB0 := Lib.hid hB0
  have HC0 := Lib.hid hC0
  have HR0 := Lib.hid hR0
  have HN := Lib.hid hN0
  have BU := BdS.of ha hb
  have BV := BdS.of ha hc
  have BN := BdN.of BU BV
  clear hA0 hB0 hC0 hR0 hN0 ha hb hc
  go_enter Tryz.func92, Tryz.ntmps92
  go_wp2
  generalize hX : ((((w.alloc (.cells #[.int .i64 a.1, .int .i64 a.2.1, .int .i64 a.2.2] 42)).alloc (.cells #[.int .i64 b.1, .int .i64 b.2.1, .int .i64 b.2.2] 42)).alloc (.cells #[.int .i64 c.1, .int .i64 c.2.1, .int .i64 c.2.2] 42)).alloc (.cells #[.int .i64 0, .int .i64 0, .int .i64 0, .int .i64 0, .int .i64 0, .int .i64 0] 91)) = X at HA0 HB0 HC0 HR0 HN ⊢
  have HA := HA0
  have HB := HB0
  have HC := HC0
  clear hX HA0 HB0 HC0
  refine wp_region_inv (by kernel_rfl) (fun L a' w' => ∃ s8 s9 s11 s12 s13 s14 s15 s16, a' = actPt a b c w.heap.size s8 s9 s11 s12 s13 s14 s15 s16 ∧ IvPt X a b c w.heap.size L s8 s9 s11 s12 s13 s14 s15 s16 w') ?_ ?_ ?_
  · exact ⟨_, _, _, _, _, _, _, _, rfl, IvPt.start X a b c w.heap.size _ _ _ _ _ _ _ _ ⟩
  · rintro L a' w' i ⟨s8, s9, s11, s12, s13, s14, s15, s16, rfl, H⟩ hi
    obtain ⟨hL, o, ho, haf⟩ := mem_ready.1 hi
    have hiN : i < 10 := (Array.getElem?_eq_some_iff.1 ho).1
    clear hi
    obtain ⟨a0, a1, a2⟩ := T3.below HA.out H.bel
    obtain ⟨b0, b1, b2⟩ := T3.below HB.out H.bel
    obtain ⟨c0, c1, c2⟩ := T3.below HC.out H.bel
    have hcs : i = 0 ∨ i = 1 ∨ i = 2 ∨ i = 3 ∨ i = 4 ∨ i = 5 ∨ i = 6 ∨ i = 7 ∨ i = 8 ∨ i = 9 := by omega
    rcases hcs with rfl | rfl | rfl | rfl | rfl | rfl | rfl | rfl | rfl | rfl
    · refine wpOp_step rfl fun K' hK => ?_
      rw [if_pos (by rfl)]
      go_simp
      exact hK _ _ ⟨_, _, _, _, _, _, _, _, rfl, H.o0⟩
    · refine wpOp_step rfl fun K' hK => ?_
      rw [if_pos (by rfl)]
      go_simp
      exact hK _ _ ⟨_, _, _, _, _, _, _, _, rfl, H.o1⟩
    · cases ho
      have e0 := H.c0 (haf_of haf 0 (by kernel_rfl))
      subst e0
      have e1 := H.c1 (haf_of haf 1 (by kernel_rfl))
      subst e1
      refine wpOp_step rfl fun K' hK => ?_
      rw [if_pos (by rfl)]
      go_simp
      refine (termStep_any a b _ HV.out.1 HV.out.2.1).mono ?_
      rintro e w1 ⟨rfl, hg⟩
      exact hK _ _ ⟨_, _, _, _, _, _, _, _, rfl, H.o2 hg.below⟩
    · refine wpOp_step rfl fun K' hK => ?_
      rw [if_pos (by rfl)]
      go_simp
      exact hK _ _ ⟨_, _, _, _, _, _, _, _, rfl, H.o3⟩
    · refine wpOp_step rfl fun K' hK => ?_
      rw [if_pos (by rfl)]
      go_simp
      exact hK _ _ ⟨_, _, _, _, _, _, _, _, rfl, H.o4⟩
    · cases ho
      have e3 := H.c3 (haf_of haf 3 (by kernel_rfl))
      subst e3
      have e4 := H.c4 (haf_of haf 4 (by kernel_rfl))
      subst e4
      refine wpOp_step rfl fun K' hK => ?_
      rw [if_pos (by rfl)]
      go_simp
      refine (termStep_any a c _ HV.out.1 HV.out.2.2).mono ?_
      rintro e w1 ⟨rfl, hg⟩
      exact hK _ _ ⟨_, _, _, _, _, _, _, _, rfl, H.o5 hg.below⟩
    · refine wpOp_step rfl fun K' hK => ?_
      rw [if_pos (by rfl)]
      go_simp
      exact hK _ _ ⟨_, _, _, _, _, _, _, _, rfl, H.o6 hL⟩
    · refine wpOp_step rfl fun K' hK => ?_
      rw [if_pos (by rfl)]
      go_simp
      exact hK _ _ ⟨_, _, _, _, _, _, _, _, rfl, H.o7 hL⟩
    · cases ho
      have l6 : L.getD 6 false = true := (haf_of haf 6 (by kernel_rfl))
      have l7 : L.getD 7 false = true := (haf_of haf 7 (by kernel_rfl))
      have e0 := H.c2 (haf_of haf 2 (by kernel_rfl))
      obtain ⟨p, hb⟩ := H.b6 l6
      obtain ⟨g, hs, hge, -⟩ := id hb
      subst e0
      subst hs
      obtain ⟨⟨k0, k1, k2⟩, f0, f1, f2⟩ := hb.cells
      refine wpOp_step rfl fun K' hK => ?_
      rw [if_pos (by rfl)]
      go_simp
      exact hK _ _ ⟨_, _, _, _, _, _, _, _, rfl, H.o8 l6 l7 rfl hb hge⟩
    · cases ho
      have l6 : L.getD 6 false = true := (haf_of haf 6 (by kernel_rfl))
      have l7 : L.getD 7 false = true := (haf_of haf 7 (by kernel_rfl))
      have e0 := H.c5 (haf_of haf 5 (by kernel_rfl))
      obtain ⟨p, hb⟩ := H.b7 l7
      obtain ⟨g, hs, hge, -⟩ := id hb
      subst e0
      subst hs
      obtain ⟨⟨k0, k1, k2⟩, f0, f1, f2⟩ := hb.cells
      refine wpOp_step rfl fun K' hK => ?_
      rw [if_pos (by rfl)]
      go_simp
      exact hK _ _ ⟨_, _, _, _, _, _, _, _, rfl, H.o9 l6 l7 rfl hb hge⟩
  · rintro L a' w' ⟨s8, s9, s11, s12, s13, s14, s15, s16, rfl, H⟩ hr
    have hall := ready_nil H.z (by kernel_rfl) hr
    have h8 := H.e8 (hall 8 (by decide))
    have h9 := H.e9 (hall 9 (by decide))
    obtain ⟨a0, a1, a2⟩ := T3.below HA.out H.bel
    have HR := Lib.hid (HR0.out.below H.bel)
    have HBW := Lib.hid (bel2 HN.out H.bel)
    obtain ⟨g8, hs8, -, -⟩ := id h8
    obtain ⟨g9, hs9, -, -⟩ := id h9
    subst hs8 hs9
    obtain ⟨⟨k0, k1, k2⟩, -⟩ := h8.cells
    obtain ⟨⟨m0, m1, m2⟩, -⟩ := h9.cells
    have hNn : ∃ u v : Tm, u = stT a b ∧ v = stT a c := ⟨_, _, rfl, rfl⟩
    obtain ⟨⟨u1, u2, u3⟩, ⟨v1, v2, v3⟩, hu, hv⟩ := hNn
    rw [← hu] at k0 k1 k2 BU BN
    rw [← hv] at m0 m1 m2 BV BN
    have HNO := Lib.hid (show noT a b c = (u2 * v3 - u3 * v2, u3 * v1 - u1 * v3, u1 * v2 - u2 * v1) by unfold noT; rw [← hu, ← hv]; rfl)
    obtain ⟨⟨bu1, bu1'⟩, ⟨bu2, bu2'⟩, bu3, bu3'⟩ := BU
    obtain ⟨⟨bv1, bv1'⟩, ⟨bv2, bv2'⟩, bv3, bv3'⟩ := BV
    obtain ⟨⟨bn1, bn1'⟩, ⟨bn2, bn2'⟩, bn3, bn3'⟩ := BN
    simp only [crT] at bu1 bu1' bu2 bu2' bu3 bu3' bv1 bv1' bv2 bv2' bv3 bv3' bn1 bn1' bn2 bn2' bn3 bn3' k0 k1 k2 m0 m1 m2
    have x1 := mulB2 (x := u2) (y := v3) (A := 6) (B := 2000000) (by omega) (by omega)
    have x2 := mulB2 (x := u3) (y := v2) (A := 2000000) (B := 6) (by omega) (by omega)
    have x3 := mulB2 (x := u3) (y := v1) (A := 2000000) (B := 6) (by omega) (by omega)
    have x4 := mulB2 (x := u1) (y := v3) (A := 6) (B := 2000000) (by omega) (by omega)
    have x5 := mulB2 (x := u1) (y := v2) (A := 6) (B := 6) (by omega) (by omega)
    have x6 := mulB2 (x := u2) (y := v1) (A := 6) (B := 6) (by omega) (by omega)
    have q1 : IntKind.i64.wrap (u2 * v3) = u2 * v3 := IntWalk.i64_in _ (by omega)
    have q2 : IntKind.i64.wrap (u3 * v2) = u3 * v2 := IntWalk.i64_in _ (by omega)
    have q4 : IntKind.i64.wrap (u3 * v1) = u3 * v1 := IntWalk.i64_in _ (by omega)
    have q5 : IntKind.i64.wrap (u1 * v3) = u1 * v3 := IntWalk.i64_in _ (by omega)
    have q7 : IntKind.i64.wrap (u1 * v2) = u1 * v2 := IntWalk.i64_in _ (by omega)
    have q8 : IntKind.i64.wrap (u2 * v1) = u2 * v1 := IntWalk.i64_in _ (by omega)
    obtain ⟨N1, hN1⟩ : ∃ N1, N1 = u2 * v3 - u3 * v2 := ⟨_, rfl⟩
    obtain ⟨N2, hN2⟩ : ∃ N2, N2 = u3 * v1 - u1 * v3 := ⟨_, rfl⟩
    obtain ⟨N3, hN3⟩ : ∃ N3, N3 = u1 * v2 - u2 * v1 := ⟨_, rfl⟩
    have q3 : IntKind.i64.wrap (u2 * v3 - u3 * v2) = N1 := by rw [hN1]; exact IntWalk.i64_in _ (by omega)
    have q6 : IntKind.i64.wrap (u3 * v1 - u1 * v3) = N2 := by rw [hN2]; exact IntWalk.i64_in _ (by omega)
    have q9 : IntKind.i64.wrap (u1 * v2 - u2 * v1) = N3 := by rw [hN3]; exact IntWalk.i64_in _ (by omega)
    rw [← hN1] at HNO bn1 bn1'
    rw [← hN2] at HNO bn2 bn2'
    rw [← hN3] at HNO bn3 bn3'
    have r1 : IntKind.i64.wrap (-N1) = -N1 := IntWalk.i64_in _ (by omega)
    have r2 : IntKind.i64.wrap (-N2) = -N2 := IntWalk.i64_in _ (by omega)
    have r3 : IntKind.i64.wrap (-N3) = -N3 := IntWalk.i64_in _ (by omega)
    have hNs : N3 = 0 ∨ N3 < 0 ∨ 0 < N3 := by omega
    have lt3 : w.heap.size + 1 + 1 + 1 < w'.heap.size := cell_lt HR.out.cells.1.1
    have lt0 : w.heap.size < w'.heap.size := cell_lt a0
    clear H hall hr h8 h9 hu hv bu1 bu1' bu2 bu2' bu3 bu3' bv1 bv1' bv2 bv2' bv3 bv3' bn1 bn1' bn2 bn2' bn3 bn3' x1 x2 x3 x4 x5 x6 hN1 hN2 hN3 HA HB HC HR0 HN
    go_upto_region 3 with fail
    have hB := B3.new w' (N1, N2, N3) 42
    have bA2 : Below w'.heap.size w' (w'.alloc (.cells #[.int .i64 N1, .int .i64 N2, .int .i64 N3] 42)) := (Below.refl _ _).alloc (Nat.le_refl _) _
    have hL := HR.out.below bA2
    have hA2 := T3.below ⟨a0, a1, a2⟩ bA2
    have HW2 := Lib.hid (bel2 HBW.out bA2)
    obtain ⟨gN, hgN⟩ : ∃ g, g = w'.heap.size := ⟨_, rfl⟩
    have n1 : ¬ gN = w.heap.size + 1 + 1 + 1 := by omega
    have n2 : ¬ w.heap.size + 1 + 1 + 1 = gN := by omega
    have n3 : ¬ gN = w.heap.size := by omega
    have n4 : ¬ w.heap.size = gN := by omega
    have n5 : ¬ w.heap.size = w.heap.size + 1 + 1 + 1 := by omega
    have n6 : ¬ w.heap.size + 1 + 1 + 1 = w.heap.size := by omega
    have n7 : w.heap.size ≤ gN := by omega
    rw [← hgN] at hB ⊢
    generalize w'.alloc (.cells #[.int .i64 N1, .int .i64 N2, .int .i64 N3] 42) = W2 at hB hL hA2 HW2 ⊢
    have HL := Lib.hid hL
    obtain ⟨⟨z0, z1, z2, z3, z4, z5⟩, f0, f1, f2, f3, f4, f5⟩ := hL.cells
    dsimp only at z0 z1 z2 z3 z4 z5
    obtain ⟨a0, a1, a2⟩ := hA2
    obtain ⟨⟨y0, y1, y2⟩, x0, x1, x2⟩ := hB
    dsimp only at y0 y1 y2
    clear bA2 hgN lt3 lt0 q1 q2 q3 q4 q5 q6 q7 q8 q9 hL HR HBW
    rcases hNs with h0 | h0 | h0
    · have HE := Lib.hid (pln_zero (a := a) (b := b) (c := c) (by rw [HNO.out]; exact h0))
      have h0' : (N3 == 0) = true := by simp [h0]
      go_wp2
      refine bodyPost_ret (L6.results (t := ((0, 0, 0), (0, 0, 0))) (g := w.heap.size + 1 + 1 + 1) (L6.put HL.out ((0, 0, 0), (0, 0, 0))) rfl rfl rfl) rfl ?_
      exact ⟨by rw [HE.out.1, HE.out.2]; rfl, (belS (belS (belS (belS (belS (belS HW2.out (by omega) _ _) (by omega) _ _) (by omega) _ _) (by omega) _ _) (by omega) _ _) (by omega) _ _)⟩
    · have HE := Lib.hid (pln_neg (a := a) (b := b) (c := c) (by rw [HNO.out]; exact h0))
      have h0' : ¬ N3 = 0 := by omega
      go_wp2
      refine bodyPost_ret (L6.results (t := (a, (-N1, -N2, -N3))) (g := w.heap.size + 1 + 1 + 1) (L6.put (((HL.out.off n2 0 (.int .i64 (-N1))).off n2 1 (.int .i64 (-N2))).off n2 2 (.int .i64 (-N3))) (a, (-N1, -N2, -N3))) rfl rfl rfl) rfl ?_
      exact ⟨by rw [HE.out.1, HE.out.2]; rw [HNO.out]; rfl, (belS (belS (belS (belS (belS (belS (belS (belS (belS HW2.out n7 _ _) n7 _ _) n7 _ _) (by omega) _ _) (by omega) _ _) (by omega) _ _) (by omega) _ _) (by omega) _ _) (by omega) _ _)⟩
    · have HE := Lib.hid (pln_pos (a := a) (b := b) (c := c) (by rw [HNO.out]; exact h0))
      have h0' : ¬ N3 = 0 := by omega
      have h1' : ¬ N3 < 0 := by omega
      go_wp2
      refine bodyPost_ret (L6.results (t := (a, (N1, N2, N3))) (g := w.heap.size + 1 + 1 + 1) (L6.put HL.out (a, (N1, N2, N3))) rfl rfl rfl) rfl ?_
      exact ⟨by rw [HE.out.1, HE.out.2]; rw [HNO.out]; rfl, (belS (belS (belS (belS (belS (belS HW2.out (by omega) _ _) (by omega) _ _) (by omega) _ _) (by omega) _ _) (by omega) _ _) (by omega) _ _)⟩
end Go.Proofs.YtcfplfjllnojoaaGreat
/-
  The program's heights, all its planes, the indices of a set: what each call returns.
  Conditions: the terms are valid; the set has twelve places.
-/
namespace Go.Proofs.YtcfplfjllnojoaaGreat
set_option linter.unusedSimpArgs false
set_option linter.unusedVariables false
open Go.ChangeShapes Go.WideShapes Go.ChangeAt Go.RowKit
open Go.Sort (grow)

set_option maxHeartbeats 1000000 in
set_option maxRecDepth 100000 in
theorem heightOf_any (p : Tm × Tm) (t : Tm) (w : World) (hp : plT p.1 = true) (hN : BdN p.2) (ht : plT t = true) : Calls Tryz.prog 64 #[lpV p, tmV t] w fun e w' => e = .returned (.int .i64 (hgtP p t)) ∧ Below w.heap.size w w' := by
  have HV := Lib.hid (And.intro hp ht)
  obtain ⟨⟨s1, s2⟩, ⟨s3, s4⟩, s5, s6⟩ := BdS.of hp ht
  obtain ⟨⟨m1, m2⟩, ⟨m3, m4⟩, m5, m6⟩ := hN
  have hL := (L6.new w p).below ((Below.refl _ _).alloc (Nat.le_refl _) (.cells #[.int .i64 t.1, .int .i64 t.2.1, .int .i64 t.2.2] 42))
  have hT := T3.new (w.alloc (.cells #[.int .i64 p.1.1, .int .i64 p.1.2.1, .int .i64 p.1.2.2, .int .i64 p.2.1, .int .i64 p.2.2.1, .int .i64 p.2.2.2] 91)) t 42
  have hB : Below w.heap.size w ((w.alloc (.cells #[.int .i64 p.1.1, .int .i64 p.1.2.1, .int .i64 p.1.2.2, .int .i64 p.2.1, .int .i64 p.2.2.1, .int .i64 p.2.2.2] 91)).alloc (.cells #[.int .i64 t.1, .int .i64 t.2.1, .int .i64 t.2.2] 42)) := belA1 (belA1 (Below.refl _ _) _) _
  rw [World.size_alloc] at hT
  obtain ⟨s, hs⟩ : ∃ s, s = stT p.1 t := ⟨_, rfl⟩
  have HST := Lib.hid hs
  have HE := Lib.hid (show hgtP p t = p.2.1 * s.1 + p.2.2.1 * s.2.1 + p.2.2.2 * s.2.2 by rw [hs]; rfl)
  rw [← hs] at s1 s2 s3 s4 s5 s6
  have x1 := mulB2 (x := p.2.1) (y := s.1) (A := 24000000) (B := 6) (by omega) (by omega)
  have x2 := mulB2 (x := p.2.2.1) (y := s.2.1) (A := 24000000) (B := 6) (by omega) (by omega)
  have x3 := mulB2 (x := p.2.2.2) (y := s.2.2) (A := 72) (B := 2000000) (by omega) (by omega)
  have q1 : IntKind.i64.wrap (p.2.1 * s.1) = p.2.1 * s.1 := IntWalk.i64_in _ (by omega)
  have q2 : IntKind.i64.wrap (p.2.2.1 * s.2.1) = p.2.2.1 * s.2.1 := IntWalk.i64_in _ (by omega)
  have q3 : IntKind.i64.wrap (p.2.1 * s.1 + p.2.2.1 * s.2.1) = p.2.1 * s.1 + p.2.2.1 * s.2.1 := IntWalk.i64_in _ (by omega)
  have q4 : IntKind.i64.wrap (p.2.2.2 * s.2.2) = p.2.2.2 * s.2.2 := IntWalk.i64_in _ (by omega)
  have q5 : IntKind.i64.wrap (p.2.1 * s.1 + p.2.2.1 * s.2.1 + p.2.2.2 * s.2.2) = p.2.1 * s.1 + p.2.2.1 * s.2.1 + p.2.2.2 * s.2.2 := IntWalk.i64_in _ (by omega)
  rw [HE.out]
  clear x1 x2 x3 s1 s2 s3 s4 s5 s6 m1 m2 m3 m4 m5 m6 hs hp ht
  go_enter Tryz.func64, Tryz.ntmps64
  go_wp2_with fail
  refine (termStep_any _ _ _ HV.out.1 HV.out.2).mono ?_
  rintro e w1 ⟨rfl, hg⟩
  rw [← HST.out]
  obtain ⟨⟨z0, z1, z2, z3, z4, z5⟩, -⟩ := (hL.below hg.below).cells
  have hb1 := belG hB hg
  have lt : w.heap.size < w1.heap.size := cell_lt z0
  clear hL hT hB hg
  go_wp2
  go_ret
  exact ⟨rfl, belA1 hb1 _⟩
def encL (p : Tm × Tm) : List Int := [p.1.1, p.1.2.1, p.1.2.2, p.2.1, p.2.2.1, p.2.2.2]
theorem encL_len (p : Tm × Tm) : (encL p).length = 6 := rfl
def flatL (ps : List (Tm × Tm)) : List Int := ps.flatMap encL
theorem flatL_len (ps : List (Tm × Tm)) : (flatL ps).length = ps.length * 6 := flat_len encL_len ps
def ppd (ps : List (Tm × Tm)) (k : Nat) : Tm × Tm := ps.getD k ((0, 0, 0), (0, 0, 0))
theorem ppd_eq (ps : List (Tm × Tm)) (k : Nat) (hk : k < ps.length) : ppd ps k = ps[k] := by
  unfold ppd; rw [List.getD_eq_getElem?_getD, List.getElem?_eq_getElem hk]; rfl
theorem ppd_mem {ps : List (Tm × Tm)} {k : Nat} (hk : k < ps.length) : ppd ps k ∈ ps := by rw [ppd_eq ps k hk]; exact List.getElem_mem hk
theorem flatL_gd {ps : List (Tm × Tm)} {j i : Nat} (hj : j < ps.length) (hi : i < 6) : gd (flatL ps) (j * 6 + i) = gd (encL (ppd ps j)) i := by
  rw [ppd_eq ps j hj]; exact flat_gd encL_len ps j i hj hi
theorem infoLp : (Tryz.prog.info? 91).map (fun i => (i.zero, i.size, i.bytes)) = some (some (.agg #[.int .i64 0, .int .i64 0, .int .i64 0, .int .i64 0, .int .i64 0, .int .i64 0]), 6, 48) := by kernel_rfl
abbrev PlS (w : World) (B : Nat) (v : Value) (ps : List (Tm × Tm)) : Prop := FS 91 6 w B v ps.length (flatL ps)
theorem ones6 (P : Tm × Tm) : ∀ u ∈ ints (encL P), u.oneCell' = true := fun u hu => by
  simp only [ints, List.mem_map] at hu
  obtain ⟨y, -, rfl⟩ := hu
  rfl
def GivesPls (ps : List (Tm × Tm)) (w : World) (e : Ending) (w' : World) : Prop := ∃ r, e = .returned r ∧ PlS w' w.heap.size r ps ∧ Below w.heap.size w w'
/-- Planes of some threes. -/
def PlI (l : List Tm) (D : Nat → Nat → Nat → Prop) (ps : List (Tm × Tm)) : Prop := ∀ P, P ∈ ps ↔ ∃ i j k, D i j k ∧ i < j ∧ j < k ∧ k < l.length ∧ tuT (td l i) (td l j) (td l k) ≠ 0 ∧ P = plO l i j k
theorem PlI.mono {l : List Tm} {D D' : Nat → Nat → Nat → Prop} {ps : List (Tm × Tm)} (h : PlI l D ps) (hD : ∀ a b c, a < b → b < c → c < l.length → (D' a b c ↔ D a b c)) : PlI l D' ps := fun P =>
  (h P).trans ⟨fun ⟨a, b, c, h1, h2⟩ => ⟨a, b, c, (hD a b c h2.1 h2.2.1 h2.2.2.1).2 h1, h2⟩, fun ⟨a, b, c, h1, h2⟩ => ⟨a, b, c, (hD a b c h2.1 h2.2.1 h2.2.2.1).1 h1, h2⟩⟩
theorem PlI.skip {l : List Tm} {D D' : Nat → Nat → Nat → Prop} {ps : List (Tm × Tm)} {i j k : Nat} (h : PlI l D ps) (hD : ∀ a b c, a < b → b < c → c < l.length → (D' a b c ↔ D a b c ∨ (a = i ∧ b = j ∧ c = k))) (hno : tuT (td l i) (td l j) (td l k) = 0) : PlI l D' ps := fun P =>
  (h P).trans ⟨fun ⟨a, b, c, h1, h2⟩ => ⟨a, b, c, (hD a b c h2.1 h2.2.1 h2.2.2.1).2 (.inl h1), h2⟩, fun ⟨a, b, c, h1, h2⟩ => by
    rcases (hD a b c h2.1 h2.2.1 h2.2.2.1).1 h1 with h3 | ⟨rfl, rfl, rfl⟩
    · exact ⟨a, b, c, h3, h2⟩
    · exact absurd hno h2.2.2.2.1⟩
theorem PlI.put {l : List Tm} {D D' : Nat → Nat → Nat → Prop} {ps : List (Tm × Tm)} {i j k : Nat} (h : PlI l D ps) (hD : ∀ a b c, a < b → b < c → c < l.length → (D' a b c ↔ D a b c ∨ (a = i ∧ b = j ∧ c = k)))
    (hij : i < j) (hjk : j < k) (hk : k < l.length) (ht : tuT (td l i) (td l j) (td l k) ≠ 0) : PlI l D' (ps ++ [plO l i j k]) := fun P => by
  rw [List.mem_append, h P, List.mem_singleton]
  constructor
  · rintro (⟨a, b, c, h1, h2⟩ | rfl)
    · exact ⟨a, b, c, (hD a b c h2.1 h2.2.1 h2.2.2.1).2 (.inl h1), h2⟩
    · exact ⟨i, j, k, (hD i j k hij hjk hk).2 (.inr ⟨rfl, rfl, rfl⟩), hij, hjk, hk, ht, rfl⟩
  · rintro ⟨a, b, c, h1, h2⟩
    rcases (hD a b c h2.1 h2.2.1 h2.2.2.1).1 h1 with h3 | ⟨rfl, rfl, rfl⟩
    · exact .inl ⟨a, b, c, h3, h2⟩
    · exact .inr h2.2.2.2.2
/-- All planes. -/
def AllP (l : List Tm) (ps : List (Tm × Tm)) : Prop := ∀ P, P ∈ ps ↔ ∃ i j k, i < j ∧ j < k ∧ k < l.length ∧ tuT (td l i) (td l j) (td l k) ≠ 0 ∧ P = plO l i j k
def E1 (k : Nat) (_a _b c : Nat) : Prop := c < k
def E2 (k j : Nat) (_a b c : Nat) : Prop := c < k ∨ (c = k ∧ b < j)
def E3 (k j i : Nat) (a b c : Nat) : Prop := c < k ∨ (c = k ∧ (b < j ∨ (b = j ∧ a < i)))
/-- A new block of 6 integers: from block N on, it holds p. -/
def Bl (N : Nat) (w : World) (v : Value) (p : Tm × Tm) : Prop := ∃ g, v = .pointer (some ⟨g, 0, none⟩) ∧ N ≤ g ∧ w.heap[g]? = some (.cells #[.int .i64 p.1.1, .int .i64 p.1.2.1, .int .i64 p.1.2.2, .int .i64 p.2.1, .int .i64 p.2.2.1, .int .i64 p.2.2.2] 91 (0, 0))
theorem Bl.gr {N : Nat} {w w' : World} {v : Value} {p : Tm × Tm} (h : Bl N w v p) (hg : Below w.heap.size w w') : Bl N w' v p := by
  obtain ⟨g, h1, h2, h3⟩ := h
  exact ⟨g, h1, h2, (hg.block g (Array.getElem?_eq_some_iff.1 h3).1).trans h3⟩
theorem Bl.new {N : Nat} {w : World} (h : N ≤ w.heap.size) : Bl N (w.alloc (.cells #[.int .i64 0, .int .i64 0, .int .i64 0, .int .i64 0, .int .i64 0, .int .i64 0] 91)) (.pointer (some ⟨w.heap.size, 0, none⟩)) ((0, 0, 0), (0, 0, 0)) :=
  ⟨_, rfl, h, heap_alloc_new w _⟩
theorem Bl.ne_new {N : Nat} {w : World} {v : Value} {p : Tm × Tm} (h : Bl N w v p) : v ≠ .pointer (some ⟨w.heap.size, 0, none⟩) := by
  obtain ⟨g, rfl, h2, h3⟩ := h
  intro e
  have h4 := (Array.getElem?_eq_some_iff.1 h3).1
  simp only [Value.pointer.injEq, Option.some.injEq, Addr.mk.injEq] at e
  omega
theorem Bl.at {N g : Nat} {w : World} {p : Tm × Tm} (h : Bl N w (.pointer (some ⟨g, 0, none⟩)) p) : N ≤ g ∧ w.heap[g]? = some (.cells #[.int .i64 p.1.1, .int .i64 p.1.2.1, .int .i64 p.1.2.2, .int .i64 p.2.1, .int .i64 p.2.2.1, .int .i64 p.2.2.2] 91 (0, 0)) := by
  obtain ⟨g', h1, h2, h3⟩ := h
  simp only [Value.pointer.injEq, Option.some.injEq, Addr.mk.injEq] at h1
  obtain ⟨rfl, -⟩ := h1
  exact ⟨h2, h3⟩
theorem Bl.cells {N g : Nat} {w : World} {p : Tm × Tm} (h : Bl N w (.pointer (some ⟨g, 0, none⟩)) p) : (w.cell? ⟨g, 0, none⟩ = some (.int .i64 p.1.1) ∧ w.cell? ⟨g, 1, none⟩ = some (.int .i64 p.1.2.1) ∧ w.cell? ⟨g, 2, none⟩ = some (.int .i64 p.1.2.2) ∧ w.cell? ⟨g, 3, none⟩ = some (.int .i64 p.2.1) ∧ w.cell? ⟨g, 4, none⟩ = some (.int .i64 p.2.2.1) ∧ w.cell? ⟨g, 5, none⟩ = some (.int .i64 p.2.2.2)) ∧ w.frozen? ⟨g, 0, none⟩ = false ∧ w.frozen? ⟨g, 1, none⟩ = false ∧ w.frozen? ⟨g, 2, none⟩ = false ∧ w.frozen? ⟨g, 3, none⟩ = false ∧ w.frozen? ⟨g, 4, none⟩ = false ∧ w.frozen? ⟨g, 5, none⟩ = false := by
  have h3 := h.at.2
  refine ⟨⟨?_, ?_, ?_, ?_, ?_, ?_⟩, ?_, ?_, ?_, ?_, ?_, ?_⟩ <;> simp [World.cell?, World.frozen?, h3]
theorem Bl.put {N g : Nat} {w : World} {p : Tm × Tm} (h : Bl N w (.pointer (some ⟨g, 0, none⟩)) p) (q : Tm × Tm) : Bl N ((((((w.setCell ⟨g, 0, none⟩ (.int .i64 q.1.1)).setCell ⟨g, 1, none⟩ (.int .i64 q.1.2.1)).setCell ⟨g, 2, none⟩ (.int .i64 q.1.2.2)).setCell ⟨g, 3, none⟩ (.int .i64 q.2.1)).setCell ⟨g, 4, none⟩ (.int .i64 q.2.2.1)).setCell ⟨g, 5, none⟩ (.int .i64 q.2.2.2)) (.pointer (some ⟨g, 0, none⟩)) q := by
  obtain ⟨h1, h2⟩ := h.at
  exact ⟨g, rfl, h1, heap_set_at _ (heap_set_at _ (heap_set_at _ (heap_set_at _ (heap_set_at _ (heap_set_at _ h2)))))⟩
theorem Bl.off {N g : Nat} {w : World} {v : Value} {p : Tm × Tm} (h : Bl N w v p) (hne : v ≠ .pointer (some ⟨g, 0, none⟩)) {u0 u1 u2 u3 u4 u5 : Value} : Bl N ((((((w.setCell ⟨g, 0, none⟩ u0).setCell ⟨g, 1, none⟩ u1).setCell ⟨g, 2, none⟩ u2).setCell ⟨g, 3, none⟩ u3).setCell ⟨g, 4, none⟩ u4).setCell ⟨g, 5, none⟩ u5) v p := by
  obtain ⟨g', rfl, h2, h3⟩ := h
  have hn : g' ≠ g := fun e => hne (by rw [e])
  refine ⟨g', rfl, h2, ?_⟩
  iterate 6 rw [Below.heap_setCell _ _ _ g' hn]
  exact h3
abbrev actPn (gq n cap a b c : Nat) (u3 u38 u39 u40 u41 u42 u43 u44 u45 : Value) (s7 s8 s22 s23 s24 s25 s26 s27 s28 s29 s30 s31 s32 s33 s34 s35 s36 s37 : Value) : Act := { tmps := #[.slice (some ⟨gq, 0, none⟩) n cap, undef, .slice none 0 0, u3, .int .i64 (c : Int), .int .i64 (b : Int), .int .i64 (a : Int), s7, s8, .slice (some ⟨gq, 0, none⟩) n cap, .int .i64 (n : Int), .int .i64 (c : Int), .bool true, .int .i64 (c : Int), .int .i64 (c : Int), .int .i64 (b : Int), .bool true, .int .i64 (b : Int), .int .i64 (b : Int), .int .i64 (a : Int), .bool true, .int .i64 (a : Int), s22, s23, s24, s25, s26, s27, s28, s29, s30, s31, s32, s33, s34, s35, s36, s37, u38, u39, u40, u41, u42, u43, u44, u45, undef], defers := [] }
/-- What is known when some operations are done. -/
structure IvPn (x : World) (l : List Tm) (gq n cap a b c : Nat) (L : Array Bool) (s7 s8 s22 s23 s24 s25 s26 s27 s28 s29 s30 s31 s32 s33 s34 s35 s36 s37 : Value) (w : World) : Prop where
  z : L.size = 19
  bel : Below x.heap.size x w
  c0 : (L.getD 0 false = true) → s23 = .slice (some ⟨gq, 0, none⟩) n cap
  c1 : (L.getD 1 false = true) → s24 = .int .i64 (a : Int)
  c2 : (L.getD 2 false = true) → s25 = .pointer (some ⟨gq, a * 3, none⟩)
  c3 : (L.getD 3 false = true) → s26 = tmV (td l a)
  c4 : (L.getD 4 false = true) → s27 = .slice (some ⟨gq, 0, none⟩) n cap
  c5 : (L.getD 5 false = true) → s28 = .int .i64 (b : Int)
  c6 : (L.getD 6 false = true) → s29 = .pointer (some ⟨gq, b * 3, none⟩)
  c7 : (L.getD 7 false = true) → s30 = tmV (td l b)
  c8 : (L.getD 8 false = true) → s31 = .slice (some ⟨gq, 0, none⟩) n cap
  c9 : (L.getD 9 false = true) → s32 = .int .i64 (c : Int)
  c10 : (L.getD 10 false = true) → s33 = .pointer (some ⟨gq, c * 3, none⟩)
  c11 : (L.getD 11 false = true) → s34 = tmV (td l c)
  c12 : (L.getD 12 false = true) → s35 = .tuple #[lpV (plnV (td l a) (td l b) (td l c)), .bool (plnB (td l a) (td l b) (td l c))]
  c13 : (L.getD 13 false = true) → s22 = .tuple #[lpV (plnV (td l a) (td l b) (td l c)), .bool (plnB (td l a) (td l b) (td l c))]
  c14 : (L.getD 14 false = true) → s36 = lpV (plnV (td l a) (td l b) (td l c))
  c15 : (L.getD 15 false = true) → s37 = .bool (plnB (td l a) (td l b) (td l c))
  c18 : (L.getD 18 false = true) → s8 = .bool (plnB (td l a) (td l b) (td l c))
  b16 : (L.getD 16 false = true) → ∃ p, Bl x.heap.size w s7 p
  f17 : (L.getD 17 false = true) → (L.getD 16 false = true)
  e17 : (L.getD 17 false = true) → Bl x.heap.size w s7 (plnV (td l a) (td l b) (td l c))
theorem IvPn.start (x : World) (l : List Tm) (gq n cap a b c : Nat) (s7 s8 s22 s23 s24 s25 s26 s27 s28 s29 s30 s31 s32 s33 s34 s35 s36 s37 : Value) : IvPn x l gq n cap a b c (Array.replicate 19 false) s7 s8 s22 s23 s24 s25 s26 s27 s28 s29 s30 s31 s32 s33 s34 s35 s36 s37 x.drew where
  z := rfl
  bel := belD (Below.refl _ _)
  c0 := fun h => by simp at h
  c1 := fun h => by simp at h
  c2 := fun h => by simp at h
  c3 := fun h => by simp at h
  c4 := fun h => by simp at h
  c5 := fun h => by simp at h
  c6 := fun h => by simp at h
  c7 := fun h => by simp at h
  c8 := fun h => by simp at h
  c9 := fun h => by simp at h
  c10 := fun h => by simp at h
  c11 := fun h => by simp at h
  c12 := fun h => by simp at h
  c13 := fun h => by simp at h
  c14 := fun h => by simp at h
  c15 := fun h => by simp at h
  c18 := fun h => by simp at h
  b16 := fun h => by simp at h
  f17 := fun h => by simp at h
  e17 := fun h => by simp at h
theorem IvPn.o0 {x : World} {l : List Tm} {gq n cap a b c : Nat} {L : Array Bool} {s7 s8 s22 s23 s24 s25 s26 s27 s28 s29 s30 s31 s32 s33 s34 s35 s36 s37 : Value} {w : World} (H : IvPn x l gq n cap a b c L s7 s8 s22 s23 s24 s25 s26 s27 s28 s29 s30 s31 s32 s33 s34 s35 s36 s37 w)  : IvPn x l gq n cap a b c (L.setIfInBounds 0 true) s7 s8 s22 (.slice (some ⟨gq, 0, none⟩) n cap) s24 s25 s26 s27 s28 s29 s30 s31 s32 s33 s34 s35 s36 s37 w where
  z := by rw [Array.size_setIfInBounds]; exact H.z
  bel := H.bel
  c0 := fun _ => rfl
  c1 := fun h => H.c1 (by rwa [getD_set_ne _ (by decide)] at h)
  c2 := fun h => H.c2 (by rwa [getD_set_ne _ (by decide)] at h)
  c3 := fun h => H.c3 (by rwa [getD_set_ne _ (by decide)] at h)
  c4 := fun h => H.c4 (by rwa [getD_set_ne _ (by decide)] at h)
  c5 := fun h => H.c5 (by rwa [getD_set_ne _ (by decide)] at h)
  c6 := fun h => H.c6 (by rwa [getD_set_ne _ (by decide)] at h)
  c7 := fun h => H.c7 (by rwa [getD_set_ne _ (by decide)] at h)
  c8 := fun h => H.c8 (by rwa [getD_set_ne _ (by decide)] at h)
  c9 := fun h => H.c9 (by rwa [getD_set_ne _ (by decide)] at h)
  c10 := fun h => H.c10 (by rwa [getD_set_ne _ (by decide)] at h)
  c11 := fun h => H.c11 (by rwa [getD_set_ne _ (by decide)] at h)
  c12 := fun h => H.c12 (by rwa [getD_set_ne _ (by decide)] at h)
  c13 := fun h => H.c13 (by rwa [getD_set_ne _ (by decide)] at h)
  c14 := fun h => H.c14 (by rwa [getD_set_ne _ (by decide)] at h)
  c15 := fun h => H.c15 (by rwa [getD_set_ne _ (by decide)] at h)
  c18 := fun h => H.c18 (by rwa [getD_set_ne _ (by decide)] at h)
  b16 := fun h => (H.b16 (by rwa [getD_set_ne _ (by decide)] at h))
  f17 := fun h => by rw [getD_set_ne _ (by decide)]; exact H.f17 (by rwa [getD_set_ne _ (by decide)] at h)
  e17 := fun h => (H.e17 (by rwa [getD_set_ne _ (by decide)] at h))
theorem IvPn.o1 {x : World} {l : List Tm} {gq n cap a b c : Nat} {L : Array Bool} {s7 s8 s22 s23 s24 s25 s26 s27 s28 s29 s30 s31 s32 s33 s34 s35 s36 s37 : Value} {w : World} (H : IvPn x l gq n cap a b c L s7 s8 s22 s23 s24 s25 s26 s27 s28 s29 s30 s31 s32 s33 s34 s35 s36 s37 w)  : IvPn x l gq n cap a b c (L.setIfInBounds 1 true) s7 s8 s22 s23 (.int .i64 (a : Int)) s25 s26 s27 s28 s29 s30 s31 s32 s33 s34 s35 s36 s37 w where
  z := by rw [Array.size_setIfInBounds]; exact H.z
  bel := H.bel
  c0 := fun h => H.c0 (by rwa [getD_set_ne _ (by decide)] at h)
  c1 := fun _ => rfl
  c2 := fun h => H.c2 (by rwa [getD_set_ne _ (by decide)] at h)
  c3 := fun h => H.c3 (by rwa [getD_set_ne _ (by decide)] at h)
  c4 := fun h => H.c4 (by rwa [getD_set_ne _ (by decide)] at h)
  c5 := fun h => H.c5 (by rwa [getD_set_ne _ (by decide)] at h)
  c6 := fun h => H.c6 (by rwa [getD_set_ne _ (by decide)] at h)
  c7 := fun h => H.c7 (by rwa [getD_set_ne _ (by decide)] at h)
  c8 := fun h => H.c8 (by rwa [getD_set_ne _ (by decide)] at h)
  c9 := fun h => H.c9 (by rwa [getD_set_ne _ (by decide)] at h)
  c10 := fun h => H.c10 (by rwa [getD_set_ne _ (by decide)] at h)
  c11 := fun h => H.c11 (by rwa [getD_set_ne _ (by decide)] at h)
  c12 := fun h => H.c12 (by rwa [getD_set_ne _ (by decide)] at h)
  c13 := fun h => H.c13 (by rwa [getD_set_ne _ (by decide)] at h)
  c14 := fun h => H.c14 (by rwa [getD_set_ne _ (by decide)] at h)
  c15 := fun h => H.c15 (by rwa [getD_set_ne _ (by decide)] at h)
  c18 := fun h => H.c18 (by rwa [getD_set_ne _ (by decide)] at h)
  b16 := fun h => (H.b16 (by rwa [getD_set_ne _ (by decide)] at h))
  f17 := fun h => by rw [getD_set_ne _ (by decide)]; exact H.f17 (by rwa [getD_set_ne _ (by decide)] at h)
  e17 := fun h => (H.e17 (by rwa [getD_set_ne _ (by decide)] at h))
theorem IvPn.o2 {x : World} {l : List Tm} {gq n cap a b c : Nat} {L : Array Bool} {s7 s8 s22 s23 s24 s25 s26 s27 s28 s29 s30 s31 s32 s33 s34 s35 s36 s37 : Value} {w : World} (H : IvPn x l gq n cap a b c L s7 s8 s22 s23 s24 s25 s26 s27 s28 s29 s30 s31 s32 s33 s34 s35 s36 s37 w)  : IvPn x l gq n cap a b c (L.setIfInBounds 2 true) s7 s8 s22 s23 s24 (.pointer (some ⟨gq, a * 3, none⟩)) s26 s27 s28 s29 s30 s31 s32 s33 s34 s35 s36 s37 w where
  z := by rw [Array.size_setIfInBounds]; exact H.z
  bel := H.bel
  c0 := fun h => H.c0 (by rwa [getD_set_ne _ (by decide)] at h)
  c1 := fun h => H.c1 (by rwa [getD_set_ne _ (by decide)] at h)
  c2 := fun _ => rfl
  c3 := fun h => H.c3 (by rwa [getD_set_ne _ (by decide)] at h)
  c4 := fun h => H.c4 (by rwa [getD_set_ne _ (by decide)] at h)
  c5 := fun h => H.c5 (by rwa [getD_set_ne _ (by decide)] at h)
  c6 := fun h => H.c6 (by rwa [getD_set_ne _ (by decide)] at h)
  c7 := fun h => H.c7 (by rwa [getD_set_ne _ (by decide)] at h)
  c8 := fun h => H.c8 (by rwa [getD_set_ne _ (by decide)] at h)
  c9 := fun h => H.c9 (by rwa [getD_set_ne _ (by decide)] at h)
  c10 := fun h => H.c10 (by rwa [getD_set_ne _ (by decide)] at h)
  c11 := fun h => H.c11 (by rwa [getD_set_ne _ (by decide)] at h)
  c12 := fun h => H.c12 (by rwa [getD_set_ne _ (by decide)] at h)
  c13 := fun h => H.c13 (by rwa [getD_set_ne _ (by decide)] at h)
  c14 := fun h => H.c14 (by rwa [getD_set_ne _ (by decide)] at h)
  c15 := fun h => H.c15 (by rwa [getD_set_ne _ (by decide)] at h)
  c18 := fun h => H.c18 (by rwa [getD_set_ne _ (by decide)] at h)
  b16 := fun h => (H.b16 (by rwa [getD_set_ne _ (by decide)] at h))
  f17 := fun h => by rw [getD_set_ne _ (by decide)]; exact H.f17 (by rwa [getD_set_ne _ (by decide)] at h)
  e17 := fun h => (H.e17 (by rwa [getD_set_ne _ (by decide)] at h))
theorem IvPn.o3 {x : World} {l : List Tm} {gq n cap a b c : Nat} {L : Array Bool} {s7 s8 s22 s23 s24 s25 s26 s27 s28 s29 s30 s31 s32 s33 s34 s35 s36 s37 : Value} {w : World} (H : IvPn x l gq n cap a b c L s7 s8 s22 s23 s24 s25 s26 s27 s28 s29 s30 s31 s32 s33 s34 s35 s36 s37 w)  : IvPn x l gq n cap a b c (L.setIfInBounds 3 true) s7 s8 s22 s23 s24 s25 (tmV (td l a)) s27 s28 s29 s30 s31 s32 s33 s34 s35 s36 s37 w where
  z := by rw [Array.size_setIfInBounds]; exact H.z
  bel := H.bel
  c0 := fun h => H.c0 (by rwa [getD_set_ne _ (by decide)] at h)
  c1 := fun h => H.c1 (by rwa [getD_set_ne _ (by decide)] at h)
  c2 := fun h => H.c2 (by rwa [getD_set_ne _ (by decide)] at h)
  c3 := fun _ => rfl
  c4 := fun h => H.c4 (by rwa [getD_set_ne _ (by decide)] at h)
  c5 := fun h => H.c5 (by rwa [getD_set_ne _ (by decide)] at h)
  c6 := fun h => H.c6 (by rwa [getD_set_ne _ (by decide)] at h)
  c7 := fun h => H.c7 (by rwa [getD_set_ne _ (by decide)] at h)
  c8 := fun h => H.c8 (by rwa [getD_set_ne _ (by decide)] at h)
  c9 := fun h => H.c9 (by rwa [getD_set_ne _ (by decide)] at h)
  c10 := fun h => H.c10 (by rwa [getD_set_ne _ (by decide)] at h)
  c11 := fun h => H.c11 (by rwa [getD_set_ne _ (by decide)] at h)
  c12 := fun h => H.c12 (by rwa [getD_set_ne _ (by decide)] at h)
  c13 := fun h => H.c13 (by rwa [getD_set_ne _ (by decide)] at h)
  c14 := fun h => H.c14 (by rwa [getD_set_ne _ (by decide)] at h)
  c15 := fun h => H.c15 (by rwa [getD_set_ne _ (by decide)] at h)
  c18 := fun h => H.c18 (by rwa [getD_set_ne _ (by decide)] at h)
  b16 := fun h => (H.b16 (by rwa [getD_set_ne _ (by decide)] at h))
  f17 := fun h => by rw [getD_set_ne _ (by decide)]; exact H.f17 (by rwa [getD_set_ne _ (by decide)] at h)
  e17 := fun h => (H.e17 (by rwa [getD_set_ne _ (by decide)] at h))
theorem IvPn.o4 {x : World} {l : List Tm} {gq n cap a b c : Nat} {L : Array Bool} {s7 s8 s22 s23 s24 s25 s26 s27 s28 s29 s30 s31 s32 s33 s34 s35 s36 s37 : Value} {w : World} (H : IvPn x l gq n cap a b c L s7 s8 s22 s23 s24 s25 s26 s27 s28 s29 s30 s31 s32 s33 s34 s35 s36 s37 w)  : IvPn x l gq n cap a b c (L.setIfInBounds 4 true) s7 s8 s22 s23 s24 s25 s26 (.slice (some ⟨gq, 0, none⟩) n cap) s28 s29 s30 s31 s32 s33 s34 s35 s36 s37 w where
  z := by rw [Array.size_setIfInBounds]; exact H.z
  bel := H.bel
  c0 := fun h => H.c0 (by rwa [getD_set_ne _ (by decide)] at h)
  c1 := fun h => H.c1 (by rwa [getD_set_ne _ (by decide)] at h)
  c2 := fun h => H.c2 (by rwa [getD_set_ne _ (by decide)] at h)
  c3 := fun h => H.c3 (by rwa [getD_set_ne _ (by decide)] at h)
  c4 := fun _ => rfl
  c5 := fun h => H.c5 (by rwa [getD_set_ne _ (by decide)] at h)
  c6 := fun h => H.c6 (by rwa [getD_set_ne _ (by decide)] at h)
  c7 := fun h => H.c7 (by rwa [getD_set_ne _ (by decide)] at h)
  c8 := fun h => H.c8 (by rwa [getD_set_ne _ (by decide)] at h)
  c9 := fun h => H.c9 (by rwa [getD_set_ne _ (by decide)] at h)
  c10 := fun h => H.c10 (by rwa [getD_set_ne _ (by decide)] at h)
  c11 := fun h => H.c11 (by rwa [getD_set_ne _ (by decide)] at h)
  c12 := fun h => H.c12 (by rwa [getD_set_ne _ (by decide)] at h)
  c13 := fun h => H.c13 (by rwa [getD_set_ne _ (by decide)] at h)
  c14 := fun h => H.c14 (by rwa [getD_set_ne _ (by decide)] at h)
  c15 := fun h => H.c15 (by rwa [getD_set_ne _ (by decide)] at h)
  c18 := fun h => H.c18 (by rwa [getD_set_ne _ (by decide)] at h)
  b16 := fun h => (H.b16 (by rwa [getD_set_ne _ (by decide)] at h))
  f17 := fun h => by rw [getD_set_ne _ (by decide)]; exact H.f17 (by rwa [getD_set_ne _ (by decide)] at h)
  e17 := fun h => (H.e17 (by rwa [getD_set_ne _ (by decide)] at h))
theorem IvPn.o5 {x : World} {l : List Tm} {gq n cap a b c : Nat} {L : Array Bool} {s7 s8 s22 s23 s24 s25 s26 s27 s28 s29 s30 s31 s32 s33 s34 s35 s36 s37 : Value} {w : World} (H : IvPn x l gq n cap a b c L s7 s8 s22 s23 s24 s25 s26 s27 s28 s29 s30 s31 s32 s33 s34 s35 s36 s37 w)  : IvPn x l gq n cap a b c (L.setIfInBounds 5 true) s7 s8 s22 s23 s24 s25 s26 s27 (.int .i64 (b : Int)) s29 s30 s31 s32 s33 s34 s35 s36 s37 w where
  z := by rw [Array.size_setIfInBounds]; exact H.z
  bel := H.bel
  c0 := fun h => H.c0 (by rwa [getD_set_ne _ (by decide)] at h)
  c1 := fun h => H.c1 (by rwa [getD_set_ne _ (by decide)] at h)
  c2 := fun h => H.c2 (by rwa [getD_set_ne _ (by decide)] at h)
  c3 := fun h => H.c3 (by rwa [getD_set_ne _ (by decide)] at h)
  c4 := fun h => H.c4 (by rwa [getD_set_ne _ (by decide)] at h)
  c5 := fun _ => rfl
  c6 := fun h => H.c6 (by rwa [getD_set_ne _ (by decide)] at h)
  c7 := fun h => H.c7 (by rwa [getD_set_ne _ (by decide)] at h)
  c8 := fun h => H.c8 (by rwa [getD_set_ne _ (by decide)] at h)
  c9 := fun h => H.c9 (by rwa [getD_set_ne _ (by decide)] at h)
  c10 := fun h => H.c10 (by rwa [getD_set_ne _ (by decide)] at h)
  c11 := fun h => H.c11 (by rwa [getD_set_ne _ (by decide)] at h)
  c12 := fun h => H.c12 (by rwa [getD_set_ne _ (by decide)] at h)
  c13 := fun h => H.c13 (by rwa [getD_set_ne _ (by decide)] at h)
  c14 := fun h => H.c14 (by rwa [getD_set_ne _ (by decide)] at h)
  c15 := fun h => H.c15 (by rwa [getD_set_ne _ (by decide)] at h)
  c18 := fun h => H.c18 (by rwa [getD_set_ne _ (by decide)] at h)
  b16 := fun h => (H.b16 (by rwa [getD_set_ne _ (by decide)] at h))
  f17 := fun h => by rw [getD_set_ne _ (by decide)]; exact H.f17 (by rwa [getD_set_ne _ (by decide)] at h)
  e17 := fun h => (H.e17 (by rwa [getD_set_ne _ (by decide)] at h))
theorem IvPn.o6 {x : World} {l : List Tm} {gq n cap a b c : Nat} {L : Array Bool} {s7 s8 s22 s23 s24 s25 s26 s27 s28 s29 s30 s31 s32 s33 s34 s35 s36 s37 : Value} {w : World} (H : IvPn x l gq n cap a b c L s7 s8 s22 s23 s24 s25 s26 s27 s28 s29 s30 s31 s32 s33 s34 s35 s36 s37 w)  : IvPn x l gq n cap a b c (L.setIfInBounds 6 true) s7 s8 s22 s23 s24 s25 s26 s27 s28 (.pointer (some ⟨gq, b * 3, none⟩)) s30 s31 s32 s33 s34 s35 s36 s37 w where
  z := by rw [Array.size_setIfInBounds]; exact H.z
  bel := H.bel
  c0 := fun h => H.c0 (by rwa [getD_set_ne _ (by decide)] at h)
  c1 := fun h => H.c1 (by rwa [getD_set_ne _ (by decide)] at h)
  c2 := fun h => H.c2 (by rwa [getD_set_ne _ (by decide)] at h)
  c3 := fun h => H.c3 (by rwa [getD_set_ne _ (by decide)] at h)
  c4 := fun h => H.c4 (by rwa [getD_set_ne _ (by decide)] at h)
  c5 := fun h => H.c5 (by rwa [getD_set_ne _ (by decide)] at h)
  c6 := fun _ => rfl
  c7 := fun h => H.c7 (by rwa [getD_set_ne _ (by decide)] at h)
  c8 := fun h => H.c8 (by rwa [getD_set_ne _ (by decide)] at h)
  c9 := fun h => H.c9 (by rwa [getD_set_ne _ (by decide)] at h)
  c10 := fun h => H.c10 (by rwa [getD_set_ne _ (by decide)] at h)
  c11 := fun h => H.c11 (by rwa [getD_set_ne _ (by decide)] at h)
  c12 := fun h => H.c12 (by rwa [getD_set_ne _ (by decide)] at h)
  c13 := fun h => H.c13 (by rwa [getD_set_ne _ (by decide)] at h)
  c14 := fun h => H.c14 (by rwa [getD_set_ne _ (by decide)] at h)
  c15 := fun h => H.c15 (by rwa [getD_set_ne _ (by decide)] at h)
  c18 := fun h => H.c18 (by rwa [getD_set_ne _ (by decide)] at h)
  b16 := fun h => (H.b16 (by rwa [getD_set_ne _ (by decide)] at h))
  f17 := fun h => by rw [getD_set_ne _ (by decide)]; exact H.f17 (by rwa [getD_set_ne _ (by decide)] at h)
  e17 := fun h => (H.e17 (by rwa [getD_set_ne _ (by decide)] at h))
theorem IvPn.o7 {x : World} {l : List Tm} {gq n cap a b c : Nat} {L : Array Bool} {s7 s8 s22 s23 s24 s25 s26 s27 s28 s29 s30 s31 s32 s33 s34 s35 s36 s37 : Value} {w : World} (H : IvPn x l gq n cap a b c L s7 s8 s22 s23 s24 s25 s26 s27 s28 s29 s30 s31 s32 s33 s34 s35 s36 s37 w)  : IvPn x l gq n cap a b c (L.setIfInBounds 7 true) s7 s8 s22 s23 s24 s25 s26 s27 s28 s29 (tmV (td l b)) s31 s32 s33 s34 s35 s36 s37 w where
  z := by rw [Array.size_setIfInBounds]; exact H.z
  bel := H.bel
  c0 := fun h => H.c0 (by rwa [getD_set_ne _ (by decide)] at h)
  c1 := fun h => H.c1 (by rwa [getD_set_ne _ (by decide)] at h)
  c2 := fun h => H.c2 (by rwa [getD_set_ne _ (by decide)] at h)
  c3 := fun h => H.c3 (by rwa [getD_set_ne _ (by decide)] at h)
  c4 := fun h => H.c4 (by rwa [getD_set_ne _ (by decide)] at h)
  c5 := fun h => H.c5 (by rwa [getD_set_ne _ (by decide)] at h)
  c6 := fun h => H.c6 (by rwa [getD_set_ne _ (by decide)] at h)
  c7 := fun _ => rfl
  c8 := fun h => H.c8 (by rwa [getD_set_ne _ (by decide)] at h)
  c9 := fun h => H.c9 (by rwa [getD_set_ne _ (by decide)] at h)
  c10 := fun h => H.c10 (by rwa [getD_set_ne _ (by decide)] at h)
  c11 := fun h => H.c11 (by rwa [getD_set_ne _ (by decide)] at h)
  c12 := fun h => H.c12 (by rwa [getD_set_ne _ (by decide)] at h)
  c13 := fun h => H.c13 (by rwa [getD_set_ne _ (by decide)] at h)
  c14 := fun h => H.c14 (by rwa [getD_set_ne _ (by decide)] at h)
  c15 := fun h => H.c15 (by rwa [getD_set_ne _ (by decide)] at h)
  c18 := fun h => H.c18 (by rwa [getD_set_ne _ (by decide)] at h)
  b16 := fun h => (H.b16 (by rwa [getD_set_ne _ (by decide)] at h))
  f17 := fun h => by rw [getD_set_ne _ (by decide)]; exact H.f17 (by rwa [getD_set_ne _ (by decide)] at h)
  e17 := fun h => (H.e17 (by rwa [getD_set_ne _ (by decide)] at h))
theorem IvPn.o8 {x : World} {l : List Tm} {gq n cap a b c : Nat} {L : Array Bool} {s7 s8 s22 s23 s24 s25 s26 s27 s28 s29 s30 s31 s32 s33 s34 s35 s36 s37 : Value} {w : World} (H : IvPn x l gq n cap a b c L s7 s8 s22 s23 s24 s25 s26 s27 s28 s29 s30 s31 s32 s33 s34 s35 s36 s37 w)  : IvPn x l gq n cap a b c (L.setIfInBounds 8 true) s7 s8 s22 s23 s24 s25 s26 s27 s28 s29 s30 (.slice (some ⟨gq, 0, none⟩) n cap) s32 s33 s34 s35 s36 s37 w where
  z := by rw [Array.size_setIfInBounds]; exact H.z
  bel := H.bel
  c0 := fun h => H.c0 (by rwa [getD_set_ne _ (by decide)] at h)
  c1 := fun h => H.c1 (by rwa [getD_set_ne _ (by decide)] at h)
  c2 := fun h => H.c2 (by rwa [getD_set_ne _ (by decide)] at h)
  c3 := fun h => H.c3 (by rwa [getD_set_ne _ (by decide)] at h)
  c4 := fun h => H.c4 (by rwa [getD_set_ne _ (by decide)] at h)
  c5 := fun h => H.c5 (by rwa [getD_set_ne _ (by decide)] at h)
  c6 := fun h => H.c6 (by rwa [getD_set_ne _ (by decide)] at h)
  c7 := fun h => H.c7 (by rwa [getD_set_ne _ (by decide)] at h)
  c8 := fun _ => rfl
  c9 := fun h => H.c9 (by rwa [getD_set_ne _ (by decide)] at h)
  c10 := fun h => H.c10 (by rwa [getD_set_ne _ (by decide)] at h)
  c11 := fun h => H.c11 (by rwa [getD_set_ne _ (by decide)] at h)
  c12 := fun h => H.c12 (by rwa [getD_set_ne _ (by decide)] at h)
  c13 := fun h => H.c13 (by rwa [getD_set_ne _ (by decide)] at h)
  c14 := fun h => H.c14 (by rwa [getD_set_ne _ (by decide)] at h)
  c15 := fun h => H.c15 (by rwa [getD_set_ne _ (by decide)] at h)
  c18 := fun h => H.c18 (by rwa [getD_set_ne _ (by decide)] at h)
  b16 := fun h => (H.b16 (by rwa [getD_set_ne _ (by decide)] at h))
  f17 := fun h => by rw [getD_set_ne _ (by decide)]; exact H.f17 (by rwa [getD_set_ne _ (by decide)] at h)
  e17 := fun h => (H.e17 (by rwa [getD_set_ne _ (by decide)] at h))
theorem IvPn.o9 {x : World} {l : List Tm} {gq n cap a b c : Nat} {L : Array Bool} {s7 s8 s22 s23 s24 s25 s26 s27 s28 s29 s30 s31 s32 s33 s34 s35 s36 s37 : Value} {w : World} (H : IvPn x l gq n cap a b c L s7 s8 s22 s23 s24 s25 s26 s27 s28 s29 s30 s31 s32 s33 s34 s35 s36 s37 w)  : IvPn x l gq n cap a b c (L.setIfInBounds 9 true) s7 s8 s22 s23 s24 s25 s26 s27 s28 s29 s30 s31 (.int .i64 (c : Int)) s33 s34 s35 s36 s37 w where
  z := by rw [Array.size_setIfInBounds]; exact H.z
  bel := H.bel
  c0 := fun h => H.c0 (by rwa [getD_set_ne _ (by decide)] at h)
  c1 := fun h => H.c1 (by rwa [getD_set_ne _ (by decide)] at h)
  c2 := fun h => H.c2 (by rwa [getD_set_ne _ (by decide)] at h)
  c3 := fun h => H.c3 (by rwa [getD_set_ne _ (by decide)] at h)
  c4 := fun h => H.c4 (by rwa [getD_set_ne _ (by decide)] at h)
  c5 := fun h => H.c5 (by rwa [getD_set_ne _ (by decide)] at h)
  c6 := fun h => H.c6 (by rwa [getD_set_ne _ (by decide)] at h)
  c7 := fun h => H.c7 (by rwa [getD_set_ne _ (by decide)] at h)
  c8 := fun h => H.c8 (by rwa [getD_set_ne _ (by decide)] at h)
  c9 := fun _ => rfl
  c10 := fun h => H.c10 (by rwa [getD_set_ne _ (by decide)] at h)
  c11 := fun h => H.c11 (by rwa [getD_set_ne _ (by decide)] at h)
  c12 := fun h => H.c12 (by rwa [getD_set_ne _ (by decide)] at h)
  c13 := fun h => H.c13 (by rwa [getD_set_ne _ (by decide)] at h)
  c14 := fun h => H.c14 (by rwa [getD_set_ne _ (by decide)] at h)
  c15 := fun h => H.c15 (by rwa [getD_set_ne _ (by decide)] at h)
  c18 := fun h => H.c18 (by rwa [getD_set_ne _ (by decide)] at h)
  b16 := fun h => (H.b16 (by rwa [getD_set_ne _ (by decide)] at h))
  f17 := fun h => by rw [getD_set_ne _ (by decide)]; exact H.f17 (by rwa [getD_set_ne _ (by decide)] at h)
  e17 := fun h => (H.e17 (by rwa [getD_set_ne _ (by decide)] at h))
theorem IvPn.o10 {x : World} {l : List Tm} {gq n cap a b c : Nat} {L : Array Bool} {s7 s8 s22 s23 s24 s25 s26 s27 s28 s29 s30 s31 s32 s33 s34 s35 s36 s37 : Value} {w : World} (H : IvPn x l gq n cap a b c L s7 s8 s22 s23 s24 s25 s26 s27 s28 s29 s30 s31 s32 s33 s34 s35 s36 s37 w)  : IvPn x l gq n cap a b c (L.setIfInBounds 10 true) s7 s8 s22 s23 s24 s25 s26 s27 s28 s29 s30 s31 s32 (.pointer (some ⟨gq, c * 3, none⟩)) s34 s35 s36 s37 w where
  z := by rw [Array.size_setIfInBounds]; exact H.z
  bel := H.bel
  c0 := fun h => H.c0 (by rwa [getD_set_ne _ (by decide)] at h)
  c1 := fun h => H.c1 (by rwa [getD_set_ne _ (by decide)] at h)
  c2 := fun h => H.c2 (by rwa [getD_set_ne _ (by decide)] at h)
  c3 := fun h => H.c3 (by rwa [getD_set_ne _ (by decide)] at h)
  c4 := fun h => H.c4 (by rwa [getD_set_ne _ (by decide)] at h)
  c5 := fun h => H.c5 (by rwa [getD_set_ne _ (by decide)] at h)
  c6 := fun h => H.c6 (by rwa [getD_set_ne _ (by decide)] at h)
  c7 := fun h => H.c7 (by rwa [getD_set_ne _ (by decide)] at h)
  c8 := fun h => H.c8 (by rwa [getD_set_ne _ (by decide)] at h)
  c9 := fun h => H.c9 (by rwa [getD_set_ne _ (by decide)] at h)
  c10 := fun _ => rfl
  c11 := fun h => H.c11 (by rwa [getD_set_ne _ (by decide)] at h)
  c12 := fun h => H.c12 (by rwa [getD_set_ne _ (by decide)] at h)
  c13 := fun h => H.c13 (by rwa [getD_set_ne _ (by decide)] at h)
  c14 := fun h => H.c14 (by rwa [getD_set_ne _ (by decide)] at h)
  c15 := fun h => H.c15 (by rwa [getD_set_ne _ (by decide)] at h)
  c18 := fun h => H.c18 (by rwa [getD_set_ne _ (by decide)] at h)
  b16 := fun h => (H.b16 (by rwa [getD_set_ne _ (by decide)] at h))
  f17 := fun h => by rw [getD_set_ne _ (by decide)]; exact H.f17 (by rwa [getD_set_ne _ (by decide)] at h)
  e17 := fun h => (H.e17 (by rwa [getD_set_ne _ (by decide)] at h))
theorem IvPn.o11 {x : World} {l : List Tm} {gq n cap a b c : Nat} {L : Array Bool} {s7 s8 s22 s23 s24 s25 s26 s27 s28 s29 s30 s31 s32 s33 s34 s35 s36 s37 : Value} {w : World} (H : IvPn x l gq n cap a b c L s7 s8 s22 s23 s24 s25 s26 s27 s28 s29 s30 s31 s32 s33 s34 s35 s36 s37 w)  : IvPn x l gq n cap a b c (L.setIfInBounds 11 true) s7 s8 s22 s23 s24 s25 s26 s27 s28 s29 s30 s31 s32 s33 (tmV (td l c)) s35 s36 s37 w where
  z := by rw [Array.size_setIfInBounds]; exact H.z
  bel := H.bel
  c0 := fun h => H.c0 (by rwa [getD_set_ne _ (by decide)] at h)
  c1 := fun h => H.c1 (by rwa [getD_set_ne _ (by decide)] at h)
  c2 := fun h => H.c2 (by rwa [getD_set_ne _ (by decide)] at h)
  c3 := fun h => H.c3 (by rwa [getD_set_ne _ (by decide)] at h)
  c4 := fun h => H.c4 (by rwa [getD_set_ne _ (by decide)] at h)
  c5 := fun h => H.c5 (by rwa [getD_set_ne _ (by decide)] at h)
  c6 := fun h => H.c6 (by rwa [getD_set_ne _ (by decide)] at h)
  c7 := fun h => H.c7 (by rwa [getD_set_ne _ (by decide)] at h)
  c8 := fun h => H.c8 (by rwa [getD_set_ne _ (by decide)] at h)
  c9 := fun h => H.c9 (by rwa [getD_set_ne _ (by decide)] at h)
  c10 := fun h => H.c10 (by rwa [getD_set_ne _ (by decide)] at h)
  c11 := fun _ => rfl
  c12 := fun h => H.c12 (by rwa [getD_set_ne _ (by decide)] at h)
  c13 := fun h => H.c13 (by rwa [getD_set_ne _ (by decide)] at h)
  c14 := fun h => H.c14 (by rwa [getD_set_ne _ (by decide)] at h)
  c15 := fun h => H.c15 (by rwa [getD_set_ne _ (by decide)] at h)
  c18 := fun h => H.c18 (by rwa [getD_set_ne _ (by decide)] at h)
  b16 := fun h => (H.b16 (by rwa [getD_set_ne _ (by decide)] at h))
  f17 := fun h => by rw [getD_set_ne _ (by decide)]; exact H.f17 (by rwa [getD_set_ne _ (by decide)] at h)
  e17 := fun h => (H.e17 (by rwa [getD_set_ne _ (by decide)] at h))
theorem IvPn.o12 {x : World} {l : List Tm} {gq n cap a b c : Nat} {L : Array Bool} {s7 s8 s22 s23 s24 s25 s26 s27 s28 s29 s30 s31 s32 s33 s34 s35 s36 s37 : Value} {w : World} (H : IvPn x l gq n cap a b c L s7 s8 s22 s23 s24 s25 s26 s27 s28 s29 s30 s31 s32 s33 s34 s35 s36 s37 w) {w' : World} (hg : Below w.heap.size w w') : IvPn x l gq n cap a b c (L.setIfInBounds 12 true) s7 s8 s22 s23 s24 s25 s26 s27 s28 s29 s30 s31 s32 s33 s34 (.tuple #[lpV (plnV (td l a) (td l b) (td l c)), .bool (plnB (td l a) (td l b) (td l c))]) s36 s37 w' where
  z := by rw [Array.size_setIfInBounds]; exact H.z
  bel := bel2 H.bel hg
  c0 := fun h => H.c0 (by rwa [getD_set_ne _ (by decide)] at h)
  c1 := fun h => H.c1 (by rwa [getD_set_ne _ (by decide)] at h)
  c2 := fun h => H.c2 (by rwa [getD_set_ne _ (by decide)] at h)
  c3 := fun h => H.c3 (by rwa [getD_set_ne _ (by decide)] at h)
  c4 := fun h => H.c4 (by rwa [getD_set_ne _ (by decide)] at h)
  c5 := fun h => H.c5 (by rwa [getD_set_ne _ (by decide)] at h)
  c6 := fun h => H.c6 (by rwa [getD_set_ne _ (by decide)] at h)
  c7 := fun h => H.c7 (by rwa [getD_set_ne _ (by decide)] at h)
  c8 := fun h => H.c8 (by rwa [getD_set_ne _ (by decide)] at h)
  c9 := fun h => H.c9 (by rwa [getD_set_ne _ (by decide)] at h)
  c10 := fun h => H.c10 (by rwa [getD_set_ne _ (by decide)] at h)
  c11 := fun h => H.c11 (by rwa [getD_set_ne _ (by decide)] at h)
  c12 := fun _ => rfl
  c13 := fun h => H.c13 (by rwa [getD_set_ne _ (by decide)] at h)
  c14 := fun h => H.c14 (by rwa [getD_set_ne _ (by decide)] at h)
  c15 := fun h => H.c15 (by rwa [getD_set_ne _ (by decide)] at h)
  c18 := fun h => H.c18 (by rwa [getD_set_ne _ (by decide)] at h)
  b16 := fun h => (H.b16 (by rwa [getD_set_ne _ (by decide)] at h)).imp fun _ k => k.gr hg
  f17 := fun h => by rw [getD_set_ne _ (by decide)]; exact H.f17 (by rwa [getD_set_ne _ (by decide)] at h)
  e17 := fun h => (H.e17 (by rwa [getD_set_ne _ (by decide)] at h)).gr hg
theorem IvPn.o13 {x : World} {l : List Tm} {gq n cap a b c : Nat} {L : Array Bool} {s7 s8 s22 s23 s24 s25 s26 s27 s28 s29 s30 s31 s32 s33 s34 s35 s36 s37 : Value} {w : World} (H : IvPn x l gq n cap a b c L s7 s8 s22 s23 s24 s25 s26 s27 s28 s29 s30 s31 s32 s33 s34 s35 s36 s37 w)  : IvPn x l gq n cap a b c (L.setIfInBounds 13 true) s7 s8 (.tuple #[lpV (plnV (td l a) (td l b) (td l c)), .bool (plnB (td l a) (td l b) (td l c))]) s23 s24 s25 s26 s27 s28 s29 s30 s31 s32 s33 s34 s35 s36 s37 w where
  z := by rw [Array.size_setIfInBounds]; exact H.z
  bel := H.bel
  c0 := fun h => H.c0 (by rwa [getD_set_ne _ (by decide)] at h)
  c1 := fun h => H.c1 (by rwa [getD_set_ne _ (by decide)] at h)
  c2 := fun h => H.c2 (by rwa [getD_set_ne _ (by decide)] at h)
  c3 := fun h => H.c3 (by rwa [getD_set_ne _ (by decide)] at h)
  c4 := fun h => H.c4 (by rwa [getD_set_ne _ (by decide)] at h)
  c5 := fun h => H.c5 (by rwa [getD_set_ne _ (by decide)] at h)
  c6 := fun h => H.c6 (by rwa [getD_set_ne _ (by decide)] at h)
  c7 := fun h => H.c7 (by rwa [getD_set_ne _ (by decide)] at h)
  c8 := fun h => H.c8 (by rwa [getD_set_ne _ (by decide)] at h)
  c9 := fun h => H.c9 (by rwa [getD_set_ne _ (by decide)] at h)
  c10 := fun h => H.c10 (by rwa [getD_set_ne _ (by decide)] at h)
  c11 := fun h => H.c11 (by rwa [getD_set_ne _ (by decide)] at h)
  c12 := fun h => H.c12 (by rwa [getD_set_ne _ (by decide)] at h)
  c13 := fun _ => rfl
  c14 := fun h => H.c14 (by rwa [getD_set_ne _ (by decide)] at h)
  c15 := fun h => H.c15 (by rwa [getD_set_ne _ (by decide)] at h)
  c18 := fun h => H.c18 (by rwa [getD_set_ne _ (by decide)] at h)
  b16 := fun h => (H.b16 (by rwa [getD_set_ne _ (by decide)] at h))
  f17 := fun h => by rw [getD_set_ne _ (by decide)]; exact H.f17 (by rwa [getD_set_ne _ (by decide)] at h)
  e17 := fun h => (H.e17 (by rwa [getD_set_ne _ (by decide)] at h))
theorem IvPn.o14 {x : World} {l : List Tm} {gq n cap a b c : Nat} {L : Array Bool} {s7 s8 s22 s23 s24 s25 s26 s27 s28 s29 s30 s31 s32 s33 s34 s35 s36 s37 : Value} {w : World} (H : IvPn x l gq n cap a b c L s7 s8 s22 s23 s24 s25 s26 s27 s28 s29 s30 s31 s32 s33 s34 s35 s36 s37 w)  : IvPn x l gq n cap a b c (L.setIfInBounds 14 true) s7 s8 s22 s23 s24 s25 s26 s27 s28 s29 s30 s31 s32 s33 s34 s35 (lpV (plnV (td l a) (td l b) (td l c))) s37 w where
  z := by rw [Array.size_setIfInBounds]; exact H.z
  bel := H.bel
  c0 := fun h => H.c0 (by rwa [getD_set_ne _ (by decide)] at h)
  c1 := fun h => H.c1 (by rwa [getD_set_ne _ (by decide)] at h)
  c2 := fun h => H.c2 (by rwa [getD_set_ne _ (by decide)] at h)
  c3 := fun h => H.c3 (by rwa [getD_set_ne _ (by decide)] at h)
  c4 := fun h => H.c4 (by rwa [getD_set_ne _ (by decide)] at h)
  c5 := fun h => H.c5 (by rwa [getD_set_ne _ (by decide)] at h)
  c6 := fun h => H.c6 (by rwa [getD_set_ne _ (by decide)] at h)
  c7 := fun h => H.c7 (by rwa [getD_set_ne _ (by decide)] at h)
  c8 := fun h => H.c8 (by rwa [getD_set_ne _ (by decide)] at h)
  c9 := fun h => H.c9 (by rwa [getD_set_ne _ (by decide)] at h)
  c10 := fun h => H.c10 (by rwa [getD_set_ne _ (by decide)] at h)
  c11 := fun h => H.c11 (by rwa [getD_set_ne _ (by decide)] at h)
  c12 := fun h => H.c12 (by rwa [getD_set_ne _ (by decide)] at h)
  c13 := fun h => H.c13 (by rwa [getD_set_ne _ (by decide)] at h)
  c14 := fun _ => rfl
  c15 := fun h => H.c15 (by rwa [getD_set_ne _ (by decide)] at h)
  c18 := fun h => H.c18 (by rwa [getD_set_ne _ (by decide)] at h)
  b16 := fun h => (H.b16 (by rwa [getD_set_ne _ (by decide)] at h))
  f17 := fun h => by rw [getD_set_ne _ (by decide)]; exact H.f17 (by rwa [getD_set_ne _ (by decide)] at h)
  e17 := fun h => (H.e17 (by rwa [getD_set_ne _ (by decide)] at h))
theorem IvPn.o15 {x : World} {l : List Tm} {gq n cap a b c : Nat} {L : Array Bool} {s7 s8 s22 s23 s24 s25 s26 s27 s28 s29 s30 s31 s32 s33 s34 s35 s36 s37 : Value} {w : World} (H : IvPn x l gq n cap a b c L s7 s8 s22 s23 s24 s25 s26 s27 s28 s29 s30 s31 s32 s33 s34 s35 s36 s37 w)  : IvPn x l gq n cap a b c (L.setIfInBounds 15 true) s7 s8 s22 s23 s24 s25 s26 s27 s28 s29 s30 s31 s32 s33 s34 s35 s36 (.bool (plnB (td l a) (td l b) (td l c))) w where
  z := by rw [Array.size_setIfInBounds]; exact H.z
  bel := H.bel
  c0 := fun h => H.c0 (by rwa [getD_set_ne _ (by decide)] at h)
  c1 := fun h => H.c1 (by rwa [getD_set_ne _ (by decide)] at h)
  c2 := fun h => H.c2 (by rwa [getD_set_ne _ (by decide)] at h)
  c3 := fun h => H.c3 (by rwa [getD_set_ne _ (by decide)] at h)
  c4 := fun h => H.c4 (by rwa [getD_set_ne _ (by decide)] at h)
  c5 := fun h => H.c5 (by rwa [getD_set_ne _ (by decide)] at h)
  c6 := fun h => H.c6 (by rwa [getD_set_ne _ (by decide)] at h)
  c7 := fun h => H.c7 (by rwa [getD_set_ne _ (by decide)] at h)
  c8 := fun h => H.c8 (by rwa [getD_set_ne _ (by decide)] at h)
  c9 := fun h => H.c9 (by rwa [getD_set_ne _ (by decide)] at h)
  c10 := fun h => H.c10 (by rwa [getD_set_ne _ (by decide)] at h)
  c11 := fun h => H.c11 (by rwa [getD_set_ne _ (by decide)] at h)
  c12 := fun h => H.c12 (by rwa [getD_set_ne _ (by decide)] at h)
  c13 := fun h => H.c13 (by rwa [getD_set_ne _ (by decide)] at h)
  c14 := fun h => H.c14 (by rwa [getD_set_ne _ (by decide)] at h)
  c15 := fun _ => rfl
  c18 := fun h => H.c18 (by rwa [getD_set_ne _ (by decide)] at h)
  b16 := fun h => (H.b16 (by rwa [getD_set_ne _ (by decide)] at h))
  f17 := fun h => by rw [getD_set_ne _ (by decide)]; exact H.f17 (by rwa [getD_set_ne _ (by decide)] at h)
  e17 := fun h => (H.e17 (by rwa [getD_set_ne _ (by decide)] at h))
theorem IvPn.o16 {x : World} {l : List Tm} {gq n cap a b c : Nat} {L : Array Bool} {s7 s8 s22 s23 s24 s25 s26 s27 s28 s29 s30 s31 s32 s33 s34 s35 s36 s37 : Value} {w : World} (H : IvPn x l gq n cap a b c L s7 s8 s22 s23 s24 s25 s26 s27 s28 s29 s30 s31 s32 s33 s34 s35 s36 s37 w) (hN : L.getD 16 true = false) : IvPn x l gq n cap a b c (L.setIfInBounds 16 true) (.pointer (some ⟨w.heap.size, 0, none⟩)) s8 s22 s23 s24 s25 s26 s27 s28 s29 s30 s31 s32 s33 s34 s35 s36 s37 (w.alloc (.cells #[.int .i64 0, .int .i64 0, .int .i64 0, .int .i64 0, .int .i64 0, .int .i64 0] 91)) where
  z := by rw [Array.size_setIfInBounds]; exact H.z
  bel := belA1 H.bel _
  c0 := fun h => H.c0 (by rwa [getD_set_ne _ (by decide)] at h)
  c1 := fun h => H.c1 (by rwa [getD_set_ne _ (by decide)] at h)
  c2 := fun h => H.c2 (by rwa [getD_set_ne _ (by decide)] at h)
  c3 := fun h => H.c3 (by rwa [getD_set_ne _ (by decide)] at h)
  c4 := fun h => H.c4 (by rwa [getD_set_ne _ (by decide)] at h)
  c5 := fun h => H.c5 (by rwa [getD_set_ne _ (by decide)] at h)
  c6 := fun h => H.c6 (by rwa [getD_set_ne _ (by decide)] at h)
  c7 := fun h => H.c7 (by rwa [getD_set_ne _ (by decide)] at h)
  c8 := fun h => H.c8 (by rwa [getD_set_ne _ (by decide)] at h)
  c9 := fun h => H.c9 (by rwa [getD_set_ne _ (by decide)] at h)
  c10 := fun h => H.c10 (by rwa [getD_set_ne _ (by decide)] at h)
  c11 := fun h => H.c11 (by rwa [getD_set_ne _ (by decide)] at h)
  c12 := fun h => H.c12 (by rwa [getD_set_ne _ (by decide)] at h)
  c13 := fun h => H.c13 (by rwa [getD_set_ne _ (by decide)] at h)
  c14 := fun h => H.c14 (by rwa [getD_set_ne _ (by decide)] at h)
  c15 := fun h => H.c15 (by rwa [getD_set_ne _ (by decide)] at h)
  c18 := fun h => H.c18 (by rwa [getD_set_ne _ (by decide)] at h)
  b16 := fun _ => ⟨_, Bl.new H.bel.size⟩
  f17 := fun _ => getD_set_same H.z (by decide)
  e17 := fun h => (notl hN (H.f17 (by rwa [getD_set_ne _ (by decide)] at h))).elim
theorem IvPn.o17 {x : World} {l : List Tm} {gq n cap a b c : Nat} {L : Array Bool} {s7 s8 s22 s23 s24 s25 s26 s27 s28 s29 s30 s31 s32 s33 s34 s35 s36 s37 : Value} {w : World} (H : IvPn x l gq n cap a b c L s7 s8 s22 s23 s24 s25 s26 s27 s28 s29 s30 s31 s32 s33 s34 s35 s36 s37 w) (l16 : L.getD 16 false = true) {g : Nat} (hs : s7 = .pointer (some ⟨g, 0, none⟩)) {p : _} (hb : Bl x.heap.size w s7 p) (hge : x.heap.size ≤ g) : IvPn x l gq n cap a b c (L.setIfInBounds 17 true) s7 s8 s22 s23 s24 s25 s26 s27 s28 s29 s30 s31 s32 s33 s34 s35 s36 s37 ((((((w.setCell ⟨g, 0, none⟩ (.int .i64 (plnV (td l a) (td l b) (td l c)).1.1)).setCell ⟨g, 1, none⟩ (.int .i64 (plnV (td l a) (td l b) (td l c)).1.2.1)).setCell ⟨g, 2, none⟩ (.int .i64 (plnV (td l a) (td l b) (td l c)).1.2.2)).setCell ⟨g, 3, none⟩ (.int .i64 (plnV (td l a) (td l b) (td l c)).2.1)).setCell ⟨g, 4, none⟩ (.int .i64 (plnV (td l a) (td l b) (td l c)).2.2.1)).setCell ⟨g, 5, none⟩ (.int .i64 (plnV (td l a) (td l b) (td l c)).2.2.2)) where
  z := by rw [Array.size_setIfInBounds]; exact H.z
  bel := belS (belS (belS (belS (belS (belS (H.bel) hge _ _) hge _ _) hge _ _) hge _ _) hge _ _) hge _ _
  c0 := fun h => H.c0 (by rwa [getD_set_ne _ (by decide)] at h)
  c1 := fun h => H.c1 (by rwa [getD_set_ne _ (by decide)] at h)
  c2 := fun h => H.c2 (by rwa [getD_set_ne _ (by decide)] at h)
  c3 := fun h => H.c3 (by rwa [getD_set_ne _ (by decide)] at h)
  c4 := fun h => H.c4 (by rwa [getD_set_ne _ (by decide)] at h)
  c5 := fun h => H.c5 (by rwa [getD_set_ne _ (by decide)] at h)
  c6 := fun h => H.c6 (by rwa [getD_set_ne _ (by decide)] at h)
  c7 := fun h => H.c7 (by rwa [getD_set_ne _ (by decide)] at h)
  c8 := fun h => H.c8 (by rwa [getD_set_ne _ (by decide)] at h)
  c9 := fun h => H.c9 (by rwa [getD_set_ne _ (by decide)] at h)
  c10 := fun h => H.c10 (by rwa [getD_set_ne _ (by decide)] at h)
  c11 := fun h => H.c11 (by rwa [getD_set_ne _ (by decide)] at h)
  c12 := fun h => H.c12 (by rwa [getD_set_ne _ (by decide)] at h)
  c13 := fun h => H.c13 (by rwa [getD_set_ne _ (by decide)] at h)
  c14 := fun h => H.c14 (by rwa [getD_set_ne _ (by decide)] at h)
  c15 := fun h => H.c15 (by rwa [getD_set_ne _ (by decide)] at h)
  c18 := fun h => H.c18 (by rwa [getD_set_ne _ (by decide)] at h)
  b16 := fun _ => ⟨_, by rw [hs]; exact Bl.put (hs ▸ hb) (plnV (td l a) (td l b) (td l c))⟩
  f17 := fun _ => by rw [getD_set_ne _ (by decide)]; exact l16
  e17 := fun _ => by rw [hs]; exact Bl.put (hs ▸ hb) _
theorem IvPn.o18 {x : World} {l : List Tm} {gq n cap a b c : Nat} {L : Array Bool} {s7 s8 s22 s23 s24 s25 s26 s27 s28 s29 s30 s31 s32 s33 s34 s35 s36 s37 : Value} {w : World} (H : IvPn x l gq n cap a b c L s7 s8 s22 s23 s24 s25 s26 s27 s28 s29 s30 s31 s32 s33 s34 s35 s36 s37 w)  : IvPn x l gq n cap a b c (L.setIfInBounds 18 true) s7 (.bool (plnB (td l a) (td l b) (td l c))) s22 s23 s24 s25 s26 s27 s28 s29 s30 s31 s32 s33 s34 s35 s36 s37 w where
  z := by rw [Array.size_setIfInBounds]; exact H.z
  bel := H.bel
  c0 := fun h => H.c0 (by rwa [getD_set_ne _ (by decide)] at h)
  c1 := fun h => H.c1 (by rwa [getD_set_ne _ (by decide)] at h)
  c2 := fun h => H.c2 (by rwa [getD_set_ne _ (by decide)] at h)
  c3 := fun h => H.c3 (by rwa [getD_set_ne _ (by decide)] at h)
  c4 := fun h => H.c4 (by rwa [getD_set_ne _ (by decide)] at h)
  c5 := fun h => H.c5 (by rwa [getD_set_ne _ (by decide)] at h)
  c6 := fun h => H.c6 (by rwa [getD_set_ne _ (by decide)] at h)
  c7 := fun h => H.c7 (by rwa [getD_set_ne _ (by decide)] at h)
  c8 := fun h => H.c8 (by rwa [getD_set_ne _ (by decide)] at h)
  c9 := fun h => H.c9 (by rwa [getD_set_ne _ (by decide)] at h)
  c10 := fun h => H.c10 (by rwa [getD_set_ne _ (by decide)] at h)
  c11 := fun h => H.c11 (by rwa [getD_set_ne _ (by decide)] at h)
  c12 := fun h => H.c12 (by rwa [getD_set_ne _ (by decide)] at h)
  c13 := fun h => H.c13 (by rwa [getD_set_ne _ (by decide)] at h)
  c14 := fun h => H.c14 (by rwa [getD_set_ne _ (by decide)] at h)
  c15 := fun h => H.c15 (by rwa [getD_set_ne _ (by decide)] at h)
  c18 := fun _ => rfl
  b16 := fun h => (H.b16 (by rwa [getD_set_ne _ (by decide)] at h))
  f17 := fun h => by rw [getD_set_ne _ (by decide)]; exact H.f17 (by rwa [getD_set_ne _ (by decide)] at h)
  e17 := fun h => (H.e17 (by rwa [getD_set_ne _ (by decide)] at h))

set_option maxHeartbeats 4000000 in
set_option maxRecDepth 100000 in
theorem planesThrough_any (w : World) (B : Nat) (v : Value) (l : List Tm) (h : TmS w B v l) (hl : plB l = true) : Calls Tryz.prog 63 #[v] w fun e w' => ∃ ps, AllP l ps ∧ ps.length ≤ 1728 ∧ GivesPls ps w e w' := by
  have H0 := Lib.hid h
  obtain ⟨A, cap, rfl, hm, hp⟩ := TmS.parts h
  have HP := Lib.hid hp
  have hle := (plB_le hl).2
  have HL := Lib.hid hl
  obtain ⟨n, hn⟩ : ∃ n, n = l.length := ⟨_, rfl⟩
  have HN := Lib.hid hn
  rw [← hn] at hm hle ⊢
  obtain ⟨i0, hi0, hz0, hz1, hz2⟩ := info_parts infoLp
  clear hp h hn hl
  go_enter Tryz.func63, Tryz.ntmps63
  go_wp2
  go_loopw [3, 11] (fun o q wr => ∃ c : Nat, c ≤ n ∧ q = .int .i64 c ∧ (∃ ps, Hid (PlI l (E1 c) ps) ∧ ps.length ≤ c * 144 ∧ PlS wr w.heap.size o ps) ∧ Below w.heap.size w wr) (fun _ q _ => n - (intOf q).toNat)
  case atStart => exact ⟨0, by omega, rfl, ⟨[], Lib.hid (fun P => ⟨fun h => by simp at h, fun ⟨a, b, c, h1, _⟩ => by unfold E1 at h1; omega⟩), by simp, FS.nil_ _ _ _ _⟩, Below.refl _ _⟩
  case round =>
    obtain ⟨c, hc, rfl, ⟨ps, hI, hps, ho⟩, hb⟩ := hrel
    by_cases hlt : c < n
    · have q1 : IntKind.i64.wrap ((c : Int) + 1) = ((c + 1 : Nat) : Int) := by rw [IntWalk.i64_in _ (by omega)]; omega
      have hI1 := Lib.hid (hI.out.mono (D' := E2 c 0) fun a b d h1 h2 h3 => by unfold E1 E2; omega)
      clear hI
      go_wp2
      go_loopw [3, 15] (fun o q wr => ∃ b : Nat, b ≤ c ∧ q = .int .i64 b ∧ (∃ ps, Hid (PlI l (E2 c b) ps) ∧ ps.length ≤ c * 144 + b * 12 ∧ PlS wr w.heap.size o ps) ∧ Below w.heap.size w wr) (fun _ q _ => c - (intOf q).toNat)
      case atStart => exact ⟨0, by omega, rfl, ⟨ps, hI1, by omega, ho⟩, hb⟩
      case round =>
        clear hI1 ho hb hps
        obtain ⟨b, hbc, rfl, ⟨ps, hI, hps, ho⟩, hb⟩ := hrel
        by_cases hltb : b < c
        · have q2 : IntKind.i64.wrap ((b : Int) + 1) = ((b + 1 : Nat) : Int) := by rw [IntWalk.i64_in _ (by omega)]; omega
          have hI1 := Lib.hid (hI.out.mono (D' := E3 c b 0) fun a b d h1 h2 h3 => by unfold E3 E2; omega)
          clear hI
          go_wp2
          go_loopw [3, 19] (fun o q wr => ∃ a : Nat, a ≤ b ∧ q = .int .i64 a ∧ (∃ ps, Hid (PlI l (E3 c b a) ps) ∧ ps.length ≤ c * 144 + b * 12 + a ∧ PlS wr w.heap.size o ps) ∧ Below w.heap.size w wr) (fun _ q _ => b - (intOf q).toNat)
          case atStart => exact ⟨0, by omega, rfl, ⟨ps, hI1, by omega, ho⟩, hb⟩
          case round =>
            clear hI1 ho hb hps
            obtain ⟨a, hab, rfl, ⟨ps, hI, hps, ho⟩, hb⟩ := hrel
            by_cases hlta : a < b
            · have hal : a < l.length := by rw [← HN.out]; omega
              have hbl : b < l.length := by rw [← HN.out]; omega
              have hcl : c < l.length := by rw [← HN.out]; exact hlt
              obtain ⟨gq, rfl, ca⟩ := HP.out a hal
              obtain ⟨g1, hg1, cb⟩ := HP.out b hbl
              cases hg1
              obtain ⟨g1, hg1, cc⟩ := HP.out c hcl
              cases hg1
              have HX0 := Lib.hid (And.intro (X3.below ca hb) (And.intro (X3.below cb hb) (X3.below cc hb)))
              have HV := Lib.hid (And.intro (plB_at HL.out hal) (And.intro (plB_at HL.out hbl) (plB_at HL.out hcl)))
              have ha1 : (a : Int) < (n : Int) := by omega
              have hb1 : (b : Int) < (n : Int) := by omega
              have hc1 : (c : Int) < (n : Int) := by omega
              have ha2 : (0 : Int) ≤ (a : Int) := by omega
              have hb2 : (0 : Int) ≤ (b : Int) := by omega
              have hc2 : (0 : Int) ≤ (c : Int) := by omega
              have HD := Lib.hid (fun x y z (h1 : x < y) (h2 : y < z) (h3 : z < l.length) => show E3 c b (a + 1) x y z ↔ E3 c b a x y z ∨ (x = a ∧ y = b ∧ z = c) by unfold E3; omega)
              have q3 : IntKind.i64.wrap ((a : Int) + 1) = ((a + 1 : Nat) : Int) := by rw [IntWalk.i64_in _ (by omega)]; omega
              clear ca cb cc
              go_upto_region 11 with fail
              obtain ⟨X, hXd⟩ : ∃ X, X = wr := ⟨_, rfl⟩
              have HX := HX0
              rw [← hXd] at HX ho hb ⊢
              clear HX0
              refine wp_region_inv (by kernel_rfl) (fun L a' w' => ∃ s7 s8 s22 s23 s24 s25 s26 s27 s28 s29 s30 s31 s32 s33 s34 s35 s36 s37, a' = actPn gq n cap a b c u3 u38 u39 u40 u41 u42 u43 u44 u45 s7 s8 s22 s23 s24 s25 s26 s27 s28 s29 s30 s31 s32 s33 s34 s35 s36 s37 ∧ IvPn X l gq n cap a b c L s7 s8 s22 s23 s24 s25 s26 s27 s28 s29 s30 s31 s32 s33 s34 s35 s36 s37 w') ?_ ?_ ?_
              · exact ⟨_, _, _, _, _, _, _, _, _, _, _, _, _, _, _, _, _, _, rfl, IvPn.start X l gq n cap a b c _ _ _ _ _ _ _ _ _ _ _ _ _ _ _ _ _ _ ⟩
              · rintro L a' w' i ⟨s7, s8, s22, s23, s24, s25, s26, s27, s28, s29, s30, s31, s32, s33, s34, s35, s36, s37, rfl, H⟩ hi
                obtain ⟨hL, o, ho, haf⟩ := mem_ready.1 hi
                have hiN : i < 19 := (Array.getElem?_eq_some_iff.1 ho).1
                clear hi
                obtain ⟨⟨a0, a1, a2⟩, ⟨b0, b1, b2⟩, c0, c1, c2⟩ := And.intro (X3.below HX.out.1 H.bel) (And.intro (X3.below HX.out.2.1 H.bel) (X3.below HX.out.2.2 H.bel))
                have hcs : i = 0 ∨ i = 1 ∨ i = 2 ∨ i = 3 ∨ i = 4 ∨ i = 5 ∨ i = 6 ∨ i = 7 ∨ i = 8 ∨ i = 9 ∨ i = 10 ∨ i = 11 ∨ i = 12 ∨ i = 13 ∨ i = 14 ∨ i = 15 ∨ i = 16 ∨ i = 17 ∨ i = 18 := by omega
                rcases hcs with rfl | rfl | rfl | rfl | rfl | rfl | rfl | rfl | rfl | rfl | rfl | rfl | rfl | rfl | rfl | rfl | rfl | rfl | rfl
                · cases ho
                  refine wpOp_step rfl fun K' hK => ?_
                  rw [if_pos (by rfl)]
                  go_simp
                  exact hK _ _ ⟨_, _, _, _, _, _, _, _, _, _, _, _, _, _, _, _, _, _, rfl, H.o0⟩
                · cases ho
                  refine wpOp_step rfl fun K' hK => ?_
                  rw [if_pos (by rfl)]
                  go_simp
                  exact hK _ _ ⟨_, _, _, _, _, _, _, _, _, _, _, _, _, _, _, _, _, _, rfl, H.o1⟩
                · cases ho
                  have e0 := H.c0 (haf_of haf 0 (by kernel_rfl))
                  subst e0
                  have e1 := H.c1 (haf_of haf 1 (by kernel_rfl))
                  subst e1
                  refine wpOp_step rfl fun K' hK => ?_
                  rw [if_pos (by rfl)]
                  go_simp
                  exact hK _ _ ⟨_, _, _, _, _, _, _, _, _, _, _, _, _, _, _, _, _, _, rfl, H.o2⟩
                · cases ho
                  have e2 := H.c2 (haf_of haf 2 (by kernel_rfl))
                  subst e2
                  refine wpOp_step rfl fun K' hK => ?_
                  rw [if_pos (by rfl)]
                  go_simp
                  exact hK _ _ ⟨_, _, _, _, _, _, _, _, _, _, _, _, _, _, _, _, _, _, rfl, H.o3⟩
                · cases ho
                  refine wpOp_step rfl fun K' hK => ?_
                  rw [if_pos (by rfl)]
                  go_simp
                  exact hK _ _ ⟨_, _, _, _, _, _, _, _, _, _, _, _, _, _, _, _, _, _, rfl, H.o4⟩
                · cases ho
                  refine wpOp_step rfl fun K' hK => ?_
                  rw [if_pos (by rfl)]
                  go_simp
                  exact hK _ _ ⟨_, _, _, _, _, _, _, _, _, _, _, _, _, _, _, _, _, _, rfl, H.o5⟩
                · cases ho
                  have e4 := H.c4 (haf_of haf 4 (by kernel_rfl))
                  subst e4
                  have e5 := H.c5 (haf_of haf 5 (by kernel_rfl))
                  subst e5
                  refine wpOp_step rfl fun K' hK => ?_
                  rw [if_pos (by rfl)]
                  go_simp
                  exact hK _ _ ⟨_, _, _, _, _, _, _, _, _, _, _, _, _, _, _, _, _, _, rfl, H.o6⟩
                · cases ho
                  have e6 := H.c6 (haf_of haf 6 (by kernel_rfl))
                  subst e6
                  refine wpOp_step rfl fun K' hK => ?_
                  rw [if_pos (by rfl)]
                  go_simp
                  exact hK _ _ ⟨_, _, _, _, _, _, _, _, _, _, _, _, _, _, _, _, _, _, rfl, H.o7⟩
                · cases ho
                  refine wpOp_step rfl fun K' hK => ?_
                  rw [if_pos (by rfl)]
                  go_simp
                  exact hK _ _ ⟨_, _, _, _, _, _, _, _, _, _, _, _, _, _, _, _, _, _, rfl, H.o8⟩
                · cases ho
                  refine wpOp_step rfl fun K' hK => ?_
                  rw [if_pos (by rfl)]
                  go_simp
                  exact hK _ _ ⟨_, _, _, _, _, _, _, _, _, _, _, _, _, _, _, _, _, _, rfl, H.o9⟩
                · cases ho
                  have e8 := H.c8 (haf_of haf 8 (by kernel_rfl))
                  subst e8
                  have e9 := H.c9 (haf_of haf 9 (by kernel_rfl))
                  subst e9
                  refine wpOp_step rfl fun K' hK => ?_
                  rw [if_pos (by rfl)]
                  go_simp
                  exact hK _ _ ⟨_, _, _, _, _, _, _, _, _, _, _, _, _, _, _, _, _, _, rfl, H.o10⟩
                · cases ho
                  have e10 := H.c10 (haf_of haf 10 (by kernel_rfl))
                  subst e10
                  refine wpOp_step rfl fun K' hK => ?_
                  rw [if_pos (by rfl)]
                  go_simp
                  exact hK _ _ ⟨_, _, _, _, _, _, _, _, _, _, _, _, _, _, _, _, _, _, rfl, H.o11⟩
                · cases ho
                  have e3 := H.c3 (haf_of haf 3 (by kernel_rfl))
                  subst e3
                  have e7 := H.c7 (haf_of haf 7 (by kernel_rfl))
                  subst e7
                  have e11 := H.c11 (haf_of haf 11 (by kernel_rfl))
                  subst e11
                  refine wpOp_step rfl fun K' hK => ?_
                  rw [if_pos (by rfl)]
                  go_simp
                  refine (planeThrough_any _ _ _ _ HV.out.1 HV.out.2.1 HV.out.2.2).mono ?_
                  rintro e w1 ⟨rfl, hg⟩
                  exact hK _ _ ⟨_, _, _, _, _, _, _, _, _, _, _, _, _, _, _, _, _, _, rfl, H.o12 hg⟩
                · cases ho
                  have e12 := H.c12 (haf_of haf 12 (by kernel_rfl))
                  subst e12
                  refine wpOp_step rfl fun K' hK => ?_
                  rw [if_pos (by rfl)]
                  go_simp
                  exact hK _ _ ⟨_, _, _, _, _, _, _, _, _, _, _, _, _, _, _, _, _, _, rfl, H.o13⟩
                · cases ho
                  have e13 := H.c13 (haf_of haf 13 (by kernel_rfl))
                  subst e13
                  refine wpOp_step rfl fun K' hK => ?_
                  rw [if_pos (by rfl)]
                  go_simp
                  exact hK _ _ ⟨_, _, _, _, _, _, _, _, _, _, _, _, _, _, _, _, _, _, rfl, H.o14⟩
                · cases ho
                  have e13 := H.c13 (haf_of haf 13 (by kernel_rfl))
                  subst e13
                  refine wpOp_step rfl fun K' hK => ?_
                  rw [if_pos (by rfl)]
                  go_simp
                  exact hK _ _ ⟨_, _, _, _, _, _, _, _, _, _, _, _, _, _, _, _, _, _, rfl, H.o15⟩
                · refine wpOp_step rfl fun K' hK => ?_
                  rw [if_pos (by rfl)]
                  go_simp
                  exact hK _ _ ⟨_, _, _, _, _, _, _, _, _, _, _, _, _, _, _, _, _, _, rfl, H.o16 hL⟩
                · cases ho
                  have l16 : L.getD 16 false = true := (haf_of haf 16 (by kernel_rfl))
                  have e0 := H.c14 (haf_of haf 14 (by kernel_rfl))
                  obtain ⟨p, hb⟩ := H.b16 l16
                  obtain ⟨g, hs, hge, -⟩ := id hb
                  subst e0
                  subst hs
                  obtain ⟨⟨k0, k1, k2, k3, k4, k5⟩, f0, f1, f2, f3, f4, f5⟩ := hb.cells
                  refine wpOp_step rfl fun K' hK => ?_
                  rw [if_pos (by rfl)]
                  go_simp
                  exact hK _ _ ⟨_, _, _, _, _, _, _, _, _, _, _, _, _, _, _, _, _, _, rfl, H.o17 l16 rfl hb hge⟩
                · cases ho
                  have e15 := H.c15 (haf_of haf 15 (by kernel_rfl))
                  subst e15
                  refine wpOp_step rfl fun K' hK => ?_
                  rw [if_pos (by rfl)]
                  go_simp
                  exact hK _ _ ⟨_, _, _, _, _, _, _, _, _, _, _, _, _, _, _, _, _, _, rfl, H.o18⟩
              · rintro L a' w' ⟨s7, s8, s22, s23, s24, s25, s26, s27, s28, s29, s30, s31, s32, s33, s34, s35, s36, s37, rfl, H⟩ hr
                have hall := ready_nil H.z (by kernel_rfl) hr

                have hE := H.e17 (hall 17 (by decide))
                have h8 := H.c18 (hall 18 (by decide))
                obtain ⟨g7, hs7, -, -⟩ := id hE
                subst hs7
                subst h8
                obtain ⟨⟨z0, z1, z2, z3, z4, z5⟩, -⟩ := hE.cells
                have hbW := bel2 hb H.bel
                have ho1 := FS.below ho H.bel
                clear hall H hr hE ho hb HX hXd
                by_cases ht : tuT (td l a) (td l b) (td l c) = 0
                · have HO := Lib.hid (hI.out.skip HD.out ht)
                  have hpb : plnB (td l a) (td l b) (td l c) = false := by unfold plnB; simp [ht]
                  rw [hpb]
                  clear z0 z1 z2 z3 z4 z5 hpb
                  go_wp2
                  go_roundw
                  case rel => exact ⟨a + 1, by omega, by go_num, ⟨ps, HO, by omega, ho1⟩, hbW⟩
                  case measure => simp [intOf]; omega
                · have HO := Lib.hid (hI.out.put HD.out hlta hltb hcl ht)
                  have hpb : plnB (td l a) (td l b) (td l c) = true := by unfold plnB; simp [ht]
                  have hpv : plnV (td l a) (td l b) (td l c) = plO l a b c := by unfold plnV; rw [if_pos ht]; rfl
                  rw [hpb]
                  rw [hpv] at z0 z1 z2 z3 z4 z5
                  obtain ⟨P, hP⟩ : ∃ P, P = plO l a b c := ⟨_, rfl⟩
                  rw [← hP] at z0 z1 z2 z3 z4 z5 HO
                  have ho' : w'.ownsRow w.heap.size 91 6 u3 ps.length (ints (flatL ps)) := ho1
                  clear hpb hpv hP
                  go_wp2_with (at_builtin; refine wpList_append_own _ rfl _ _ 88 rfl w.heap.size 91 i0 (.agg #[.int .i64 0, .int .i64 0, .int .i64 0, .int .i64 0, .int .i64 0, .int .i64 0]) 6 48 Tryz.underlying88 hi0 hz0 hz1 hz2 rfl (by decide) _ _ _ rfl (ho'.alloc _) ⟨w'.heap.size, 0, none⟩ 1 1 (ints (encL P)) rfl rfl (new_cells w' 91 #[.int .i64 P.1.1, .int .i64 P.1.2.1, .int .i64 P.1.2.2, .int .i64 P.2.1, .int .i64 P.2.2.1, .int .i64 P.2.2.2]) (ones6 P) (by unfold maxLen; omega) (by omega) (by have := hbW.size; simp; omega) ?_; intro v' w1 hown' hgrow hnil)
                  have hb' : Below w.heap.size w w1 := (hbW.alloc hbW.size _).grown hgrow (by have := hbW.size; simp; omega) (fun g' hg' => (World.ownsRow.lt ho' g' hg').1)
                  have hrow : PlS w1 w.heap.size v' (ps ++ [P]) := by
                    have := FS.snoc (zs := flatL ps) (es := encL P) hown'
                    unfold PlS
                    rw [show (ps ++ [P]).length = ps.length + 1 by simp, show flatL (ps ++ [P]) = flatL ps ++ encL P from flat_snoc ps P]
                    exact this
                  go_wp2
                  go_roundw
                  case rel => exact ⟨a + 1, by omega, by go_num, ⟨ps ++ [P], HO, by simp; omega, hrow⟩, hb'⟩
                  case measure => simp [intOf]; omega
            · obtain rfl : a = b := by omega
              have HO := Lib.hid (hI.out.mono (D' := E2 c (a + 1)) fun x y z h1 h2 h3 => by unfold E2 E3; omega)
              go_wp2
              go_roundw
              case rel => exact ⟨a + 1, by omega, by go_num, ⟨ps, HO, by omega, ho⟩, hb⟩
              case measure => simp [intOf]; omega
        · obtain rfl : b = c := by omega
          have HO := Lib.hid (hI.out.mono (D' := E1 (b + 1)) fun x y z h1 h2 h3 => by unfold E2 E1; omega)
          go_wp2
          go_roundw
          case rel => exact ⟨b + 1, by omega, by go_num, ⟨ps, HO, by omega, ho⟩, hb⟩
          case measure => simp [intOf]; omega
    · obtain rfl : c = n := by omega
      go_wp2
      go_ret
      refine ⟨ps, fun P => (hI.out P).trans ⟨fun ⟨x, y, z, _, h⟩ => ⟨x, y, z, h⟩, fun ⟨x, y, z, h⟩ => ⟨x, y, z, by unfold E1; rw [HN.out]; exact h.2.2.1, h⟩⟩, by omega, _, rfl, ho, hb⟩
end Go.Proofs.YtcfplfjllnojoaaGreat
