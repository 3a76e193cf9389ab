/-
  The vertex of a cell: the model's cuVertex.
  Condition: the slices read as what is named; the terms are valid, the cell is one.
-/
import Derived.Test.YtbapepflfgcioaaGreatCuM
import Derived.Deep.RegionHeld3
namespace Go.Proofs.YtbapepflfgcioaaGreat
set_option linter.unusedSimpArgs false
set_option linter.unusedVariables false
open Go.ChangeShapes Go.WideShapes Go.ChangeAt Go.RowKit
open Go.Sort (grow)

/-- A spot as a value, and in a block. -/
abbrev spV (a b c d : Int) : Value := .agg #[.int .i64 a, .int .i64 b, .int .i64 c, .int .i64 d]
abbrev vxV (l : List Tm) (x : List Int) : Value := spV (vxN l x) (vxD l x) (vyN l x) (vyD l x)
def Q4 (w : World) (g : Nat) (a b c d : Int) : Prop := w.heap[g]? = some (.cells #[.int .i64 a, .int .i64 b, .int .i64 c, .int .i64 d] 76 (0, 0))
theorem Q4.cells {w : World} {g : Nat} {a b c d : Int} (h : Q4 w g a b c d) : (w.cell? ⟨g, 0, none⟩ = some (.int .i64 a) ∧ w.cell? ⟨g, 1, none⟩ = some (.int .i64 b) ∧ w.cell? ⟨g, 2, none⟩ = some (.int .i64 c) ∧ w.cell? ⟨g, 3, none⟩ = some (.int .i64 d)) ∧
    (w.frozen? ⟨g, 0, none⟩ = false ∧ w.frozen? ⟨g, 1, none⟩ = false ∧ w.frozen? ⟨g, 2, none⟩ = false ∧ w.frozen? ⟨g, 3, none⟩ = false) := by
  unfold Q4 at h
  refine ⟨⟨?_, ?_, ?_, ?_⟩, ?_, ?_, ?_, ?_⟩ <;> simp [World.cell?, World.frozen?, h]
theorem Q4.below {w w' : World} {g : Nat} {a b c d : Int} (h : Q4 w g a b c d) (hb : Below w.heap.size w w') : Q4 w' g a b c d := (hb.block g (Array.getElem?_eq_some_iff.1 h).1).trans h
theorem Q4.new (w : World) (a b c d : Int) : Q4 (w.alloc (.cells #[.int .i64 a, .int .i64 b, .int .i64 c, .int .i64 d] 76)) w.heap.size a b c d := heap_alloc_new w _
theorem Q4.put {w : World} {g : Nat} {a b c d : Int} (h : Q4 w g a b c d) (a' b' c' d' : Int) : Q4 ((((w.setCell ⟨g, 0, none⟩ (.int .i64 a')).setCell ⟨g, 1, none⟩ (.int .i64 b')).setCell ⟨g, 2, none⟩ (.int .i64 c')).setCell ⟨g, 3, none⟩ (.int .i64 d')) g a' b' c' d' :=
  heap_set_at _ (heap_set_at _ (heap_set_at _ (heap_set_at _ h)))
theorem Q4.load {w : World} {g : Nat} {a b c d : Int} (h : Q4 w g a b c d) : (loadVar 76 ⟨g, 0, none⟩).run Tryz.prog w = .ok (spV a b c d) w := by
  obtain ⟨⟨h1, h2, h3, h4⟩, -⟩ := h.cells
  simp [loadVar, go_sem, h1, h2, h3, h4]
theorem Q4.result {w : World} {g : Nat} {a b c d : Int} (h : Q4 w g a b c d) {fn : Func} {p : Tmp} {ts : Array Value} (hr : fn.results = #[.cell p 76]) (hp : ts.getD p undef = .pointer (some ⟨g, 0, none⟩)) : (Go.results fn ts).run Tryz.prog w = Result.ok (spV a b c d) w := by
  have hp' : ts[p]?.getD undef = .pointer (some ⟨g, 0, none⟩) := by simpa using hp
  have ha : (asAddr (Value.pointer (some ⟨g, 0, none⟩))).run Tryz.prog w = .ok ⟨g, 0, none⟩ w := rfl
  simp only [Go.results, hr]
  simp [Sem.run_bind, Result.andThen, hp', ha, h.load]
theorem Q4.results {w : World} {g : Nat} {a b c d : Int} (h : Q4 w g a b c d) {fn : Func} {p u : Tmp} {ts : Array Value} {v : Value} (hr : fn.results = #[.cell p 76, .tmp u]) (hp : ts.getD p undef = .pointer (some ⟨g, 0, none⟩)) (hu : ts.getD u undef = v) : (Go.results fn ts).run Tryz.prog w = .ok (.tuple #[spV a b c d, v]) w := by
  rw [results_cell_tmp hr, hp, hu]
  rw [show (asAddr (Value.pointer (some ⟨g, 0, none⟩))).run Tryz.prog w = .ok ⟨g, 0, none⟩ w from rfl]
  simp only [Result.andThen]
  rw [h.load]
theorem belQ4 {x w : World} (h : Below x.heap.size x w) {g : Nat} (hg : x.heap.size ≤ g) (a b c d : Value) : Below x.heap.size x ((((w.setCell ⟨g, 0, none⟩ a).setCell ⟨g, 1, none⟩ b).setCell ⟨g, 2, none⟩ c).setCell ⟨g, 3, none⟩ d) :=
  belS (belS (belS (belS h hg _ _) hg _ _) hg _ _) hg _ _
theorem no1_eq (a b t : Tm) : (noT a b t).1 = (a.2.2 - b.2.2) * (t.2.1 - a.2.1) - (a.2.2 - t.2.2) * (b.2.1 - a.2.1) := by unfold noT crT stT; grind
theorem no2_eq (a b t : Tm) : (noT a b t).2.1 = (b.1 - a.1) * (a.2.2 - t.2.2) - (t.1 - a.1) * (a.2.2 - b.2.2) := by unfold noT crT stT; grind
abbrev actVx (q0 q1 q2 q3 q4 q5 q9 q10 q11 q12 q13 q14 q15 q16 q41 q42 q43 q44 q45 q46 q47 q48 q49 q50 q51 q52 q53 q54 q55 q56 q57 q58 q59 q60 q61 q62 q63 q64 q65 q66 q67 q68 q69 q70 q71 q72 q73 q74 q75 q76 q77 q78 q79 q80 q81 q82 q83 q84 q85 q86 q87 q88 q89 q90 q91 q92 q93 q94 q95 q96 q97 q98 q99 q100 q101 q102 q103 q104 q105 q106 q107 q108 q109 : Value) (s6 s7 s8 s17 s18 s19 s20 s21 s22 s23 s24 s25 s26 s27 s28 s29 s30 s31 s32 s33 s34 s35 s36 s37 s38 s39 s40 : Value) : Act := { tmps := #[q0, q1, q2, q3, q4, q5, s6, s7, s8, q9, q10, q11, q12, q13, q14, q15, q16, s17, s18, s19, s20, s21, s22, s23, s24, s25, s26, s27, s28, s29, s30, s31, s32, s33, s34, s35, s36, s37, s38, s39, s40, q41, q42, q43, q44, q45, q46, q47, q48, q49, q50, q51, q52, q53, q54, q55, q56, q57, q58, q59, q60, q61, q62, q63, q64, q65, q66, q67, q68, q69, q70, q71, q72, q73, q74, q75, q76, q77, q78, q79, q80, q81, q82, q83, q84, q85, q86, q87, q88, q89, q90, q91, q92, q93, q94, q95, q96, q97, q98, q99, q100, q101, q102, q103, q104, q105, q106, q107, q108, q109], defers := [] }
/-- What is known when some operations are done. -/
structure IvVx (x : World) (l : List Tm) (gt n nt gH nh capH i0 i1 i2 : Nat) (p0 p1 p2 : Pt) (L : Array Bool) (s6 s7 s8 s17 s18 s19 s20 s21 s22 s23 s24 s25 s26 s27 s28 s29 s30 s31 s32 s33 s34 s35 s36 s37 s38 s39 s40 : Value) (w : World) : Prop where
  z : L.size = 30
  bel : Below x.heap.size x w
  c0 : (L.getD 0 false = true) → s17 = .slice (some ⟨gt, 0, none⟩) n nt
  c1 : (L.getD 1 false = true) → s18 = .slice (some ⟨gt, 0, none⟩) n nt
  c2 : (L.getD 2 false = true) → s19 = .slice (some ⟨gH, 0, none⟩) nh capH
  c3 : (L.getD 3 false = true) → s20 = .pointer (some ⟨gH, 0, none⟩)
  c4 : (L.getD 4 false = true) → s21 = ptV p0
  c5 : (L.getD 5 false = true) → s22 = .int .i64 (i0 : Int)
  c6 : (L.getD 6 false = true) → s23 = .pointer (some ⟨gt, i0 * 3, none⟩)
  c7 : (L.getD 7 false = true) → s24 = tmV (td l i0)
  c8 : (L.getD 8 false = true) → s25 = .slice (some ⟨gt, 0, none⟩) n nt
  c9 : (L.getD 9 false = true) → s26 = .slice (some ⟨gt, 0, none⟩) n nt
  c10 : (L.getD 10 false = true) → s27 = .slice (some ⟨gH, 0, none⟩) nh capH
  c11 : (L.getD 11 false = true) → s28 = .pointer (some ⟨gH, 2, none⟩)
  c12 : (L.getD 12 false = true) → s29 = ptV p1
  c13 : (L.getD 13 false = true) → s30 = .int .i64 (i1 : Int)
  c14 : (L.getD 14 false = true) → s31 = .pointer (some ⟨gt, i1 * 3, none⟩)
  c15 : (L.getD 15 false = true) → s32 = tmV (td l i1)
  c16 : (L.getD 16 false = true) → s33 = .slice (some ⟨gt, 0, none⟩) n nt
  c17 : (L.getD 17 false = true) → s34 = .slice (some ⟨gt, 0, none⟩) n nt
  c18 : (L.getD 18 false = true) → s35 = .slice (some ⟨gH, 0, none⟩) nh capH
  c19 : (L.getD 19 false = true) → s36 = .pointer (some ⟨gH, 4, none⟩)
  c20 : (L.getD 20 false = true) → s37 = ptV p2
  c21 : (L.getD 21 false = true) → s38 = .int .i64 (i2 : Int)
  c22 : (L.getD 22 false = true) → s39 = .pointer (some ⟨gt, i2 * 3, none⟩)
  c23 : (L.getD 23 false = true) → s40 = tmV (td l i2)
  b24 : (L.getD 24 false = true) → ∃ p, Bt x.heap.size w s6 p
  b25 : (L.getD 25 false = true) → ∃ p, Bt x.heap.size w s7 p
  b26 : (L.getD 26 false = true) → ∃ p, Bt x.heap.size w s8 p
  d24_25 : (L.getD 24 false = true) → (L.getD 25 false = true) → s6 ≠ s7
  d24_26 : (L.getD 24 false = true) → (L.getD 26 false = true) → s6 ≠ s8
  d25_26 : (L.getD 25 false = true) → (L.getD 26 false = true) → s7 ≠ s8
  f27 : (L.getD 27 false = true) → (L.getD 24 false = true)
  e27 : (L.getD 27 false = true) → Bt x.heap.size w s6 (td l i0)
  f28 : (L.getD 28 false = true) → (L.getD 25 false = true)
  e28 : (L.getD 28 false = true) → Bt x.heap.size w s7 (td l i1)
  f29 : (L.getD 29 false = true) → (L.getD 26 false = true)
  e29 : (L.getD 29 false = true) → Bt x.heap.size w s8 (td l i2)
theorem IvVx.start (x : World) (l : List Tm) (gt n nt gH nh capH i0 i1 i2 : Nat) (p0 p1 p2 : Pt) (s6 s7 s8 s17 s18 s19 s20 s21 s22 s23 s24 s25 s26 s27 s28 s29 s30 s31 s32 s33 s34 s35 s36 s37 s38 s39 s40 : Value) : IvVx x l gt n nt gH nh capH i0 i1 i2 p0 p1 p2 (Array.replicate 30 false) s6 s7 s8 s17 s18 s19 s20 s21 s22 s23 s24 s25 s26 s27 s28 s29 s30 s31 s32 s33 s34 s35 s36 s37 s38 s39 s40 x.drew where
  z := rfl
  bel := belD (Below.refl _ _)
  c0 := fun h => by simp at h
  c1 := fun h => by simp at h
  c2 := fun h => by simp at h
  c3 := fun h => by simp at h
  c4 := fun h => by simp at h
  c5 := fun h => by simp at h
  c6 := fun h => by simp at h
  c7 := fun h => by simp at h
  c8 := fun h => by simp at h
  c9 := fun h => by simp at h
  c10 := fun h => by simp at h
  c11 := fun h => by simp at h
  c12 := fun h => by simp at h
  c13 := fun h => by simp at h
  c14 := fun h => by simp at h
  c15 := fun h => by simp at h
  c16 := fun h => by simp at h
  c17 := fun h => by simp at h
  c18 := fun h => by simp at h
  c19 := fun h => by simp at h
  c20 := fun h => by simp at h
  c21 := fun h => by simp at h
  c22 := fun h => by simp at h
  c23 := fun h => by simp at h
  b24 := fun h => by simp at h
  b25 := fun h => by simp at h
  b26 := fun h => by simp at h
  d24_25 := fun h => by simp at h
  d24_26 := fun h => by simp at h
  d25_26 := fun h => by simp at h
  f27 := fun h => by simp at h
  e27 := fun h => by simp at h
  f28 := fun h => by simp at h
  e28 := fun h => by simp at h
  f29 := fun h => by simp at h
  e29 := fun h => by simp at h
theorem IvVx.o0 {x : World} {l : List Tm} {gt n nt gH nh capH i0 i1 i2 : Nat} {p0 p1 p2 : Pt} {L : Array Bool} {s6 s7 s8 s17 s18 s19 s20 s21 s22 s23 s24 s25 s26 s27 s28 s29 s30 s31 s32 s33 s34 s35 s36 s37 s38 s39 s40 : Value} {w : World} (H : IvVx x l gt n nt gH nh capH i0 i1 i2 p0 p1 p2 L s6 s7 s8 s17 s18 s19 s20 s21 s22 s23 s24 s25 s26 s27 s28 s29 s30 s31 s32 s33 s34 s35 s36 s37 s38 s39 s40 w)  : IvVx x l gt n nt gH nh capH i0 i1 i2 p0 p1 p2 (L.setIfInBounds 0 true) s6 s7 s8 (.slice (some ⟨gt, 0, none⟩) n nt) s18 s19 s20 s21 s22 s23 s24 s25 s26 s27 s28 s29 s30 s31 s32 s33 s34 s35 s36 s37 s38 s39 s40 w where
  z := by rw [Array.size_setIfInBounds]; exact H.z
  bel := H.bel
  c0 := fun _ => rfl
  c1 := fun h => H.c1 (by rwa [getD_set_ne _ (by decide)] at h)
  c2 := fun h => H.c2 (by rwa [getD_set_ne _ (by decide)] at h)
  c3 := fun h => H.c3 (by rwa [getD_set_ne _ (by decide)] at h)
  c4 := fun h => H.c4 (by rwa [getD_set_ne _ (by decide)] at h)
  c5 := fun h => H.c5 (by rwa [getD_set_ne _ (by decide)] at h)
  c6 := fun h => H.c6 (by rwa [getD_set_ne _ (by decide)] at h)
  c7 := fun h => H.c7 (by rwa [getD_set_ne _ (by decide)] at h)
  c8 := fun h => H.c8 (by rwa [getD_set_ne _ (by decide)] at h)
  c9 := fun h => H.c9 (by rwa [getD_set_ne _ (by decide)] at h)
  c10 := fun h => H.c10 (by rwa [getD_set_ne _ (by decide)] at h)
  c11 := fun h => H.c11 (by rwa [getD_set_ne _ (by decide)] at h)
  c12 := fun h => H.c12 (by rwa [getD_set_ne _ (by decide)] at h)
  c13 := fun h => H.c13 (by rwa [getD_set_ne _ (by decide)] at h)
  c14 := fun h => H.c14 (by rwa [getD_set_ne _ (by decide)] at h)
  c15 := fun h => H.c15 (by rwa [getD_set_ne _ (by decide)] at h)
  c16 := fun h => H.c16 (by rwa [getD_set_ne _ (by decide)] at h)
  c17 := fun h => H.c17 (by rwa [getD_set_ne _ (by decide)] at h)
  c18 := fun h => H.c18 (by rwa [getD_set_ne _ (by decide)] at h)
  c19 := fun h => H.c19 (by rwa [getD_set_ne _ (by decide)] at h)
  c20 := fun h => H.c20 (by rwa [getD_set_ne _ (by decide)] at h)
  c21 := fun h => H.c21 (by rwa [getD_set_ne _ (by decide)] at h)
  c22 := fun h => H.c22 (by rwa [getD_set_ne _ (by decide)] at h)
  c23 := fun h => H.c23 (by rwa [getD_set_ne _ (by decide)] at h)
  b24 := fun h => (H.b24 (by rwa [getD_set_ne _ (by decide)] at h))
  b25 := fun h => (H.b25 (by rwa [getD_set_ne _ (by decide)] at h))
  b26 := fun h => (H.b26 (by rwa [getD_set_ne _ (by decide)] at h))
  d24_25 := fun h h' => H.d24_25 (by rwa [getD_set_ne _ (by decide)] at h) (by rwa [getD_set_ne _ (by decide)] at h')
  d24_26 := fun h h' => H.d24_26 (by rwa [getD_set_ne _ (by decide)] at h) (by rwa [getD_set_ne _ (by decide)] at h')
  d25_26 := fun h h' => H.d25_26 (by rwa [getD_set_ne _ (by decide)] at h) (by rwa [getD_set_ne _ (by decide)] at h')
  f27 := fun h => by rw [getD_set_ne _ (by decide)]; exact H.f27 (by rwa [getD_set_ne _ (by decide)] at h)
  e27 := fun h => (H.e27 (by rwa [getD_set_ne _ (by decide)] at h))
  f28 := fun h => by rw [getD_set_ne _ (by decide)]; exact H.f28 (by rwa [getD_set_ne _ (by decide)] at h)
  e28 := fun h => (H.e28 (by rwa [getD_set_ne _ (by decide)] at h))
  f29 := fun h => by rw [getD_set_ne _ (by decide)]; exact H.f29 (by rwa [getD_set_ne _ (by decide)] at h)
  e29 := fun h => (H.e29 (by rwa [getD_set_ne _ (by decide)] at h))
theorem IvVx.o1 {x : World} {l : List Tm} {gt n nt gH nh capH i0 i1 i2 : Nat} {p0 p1 p2 : Pt} {L : Array Bool} {s6 s7 s8 s17 s18 s19 s20 s21 s22 s23 s24 s25 s26 s27 s28 s29 s30 s31 s32 s33 s34 s35 s36 s37 s38 s39 s40 : Value} {w : World} (H : IvVx x l gt n nt gH nh capH i0 i1 i2 p0 p1 p2 L s6 s7 s8 s17 s18 s19 s20 s21 s22 s23 s24 s25 s26 s27 s28 s29 s30 s31 s32 s33 s34 s35 s36 s37 s38 s39 s40 w)  : IvVx x l gt n nt gH nh capH i0 i1 i2 p0 p1 p2 (L.setIfInBounds 1 true) s6 s7 s8 s17 (.slice (some ⟨gt, 0, none⟩) n nt) s19 s20 s21 s22 s23 s24 s25 s26 s27 s28 s29 s30 s31 s32 s33 s34 s35 s36 s37 s38 s39 s40 w where
  z := by rw [Array.size_setIfInBounds]; exact H.z
  bel := H.bel
  c0 := fun h => H.c0 (by rwa [getD_set_ne _ (by decide)] at h)
  c1 := fun _ => rfl
  c2 := fun h => H.c2 (by rwa [getD_set_ne _ (by decide)] at h)
  c3 := fun h => H.c3 (by rwa [getD_set_ne _ (by decide)] at h)
  c4 := fun h => H.c4 (by rwa [getD_set_ne _ (by decide)] at h)
  c5 := fun h => H.c5 (by rwa [getD_set_ne _ (by decide)] at h)
  c6 := fun h => H.c6 (by rwa [getD_set_ne _ (by decide)] at h)
  c7 := fun h => H.c7 (by rwa [getD_set_ne _ (by decide)] at h)
  c8 := fun h => H.c8 (by rwa [getD_set_ne _ (by decide)] at h)
  c9 := fun h => H.c9 (by rwa [getD_set_ne _ (by decide)] at h)
  c10 := fun h => H.c10 (by rwa [getD_set_ne _ (by decide)] at h)
  c11 := fun h => H.c11 (by rwa [getD_set_ne _ (by decide)] at h)
  c12 := fun h => H.c12 (by rwa [getD_set_ne _ (by decide)] at h)
  c13 := fun h => H.c13 (by rwa [getD_set_ne _ (by decide)] at h)
  c14 := fun h => H.c14 (by rwa [getD_set_ne _ (by decide)] at h)
  c15 := fun h => H.c15 (by rwa [getD_set_ne _ (by decide)] at h)
  c16 := fun h => H.c16 (by rwa [getD_set_ne _ (by decide)] at h)
  c17 := fun h => H.c17 (by rwa [getD_set_ne _ (by decide)] at h)
  c18 := fun h => H.c18 (by rwa [getD_set_ne _ (by decide)] at h)
  c19 := fun h => H.c19 (by rwa [getD_set_ne _ (by decide)] at h)
  c20 := fun h => H.c20 (by rwa [getD_set_ne _ (by decide)] at h)
  c21 := fun h => H.c21 (by rwa [getD_set_ne _ (by decide)] at h)
  c22 := fun h => H.c22 (by rwa [getD_set_ne _ (by decide)] at h)
  c23 := fun h => H.c23 (by rwa [getD_set_ne _ (by decide)] at h)
  b24 := fun h => (H.b24 (by rwa [getD_set_ne _ (by decide)] at h))
  b25 := fun h => (H.b25 (by rwa [getD_set_ne _ (by decide)] at h))
  b26 := fun h => (H.b26 (by rwa [getD_set_ne _ (by decide)] at h))
  d24_25 := fun h h' => H.d24_25 (by rwa [getD_set_ne _ (by decide)] at h) (by rwa [getD_set_ne _ (by decide)] at h')
  d24_26 := fun h h' => H.d24_26 (by rwa [getD_set_ne _ (by decide)] at h) (by rwa [getD_set_ne _ (by decide)] at h')
  d25_26 := fun h h' => H.d25_26 (by rwa [getD_set_ne _ (by decide)] at h) (by rwa [getD_set_ne _ (by decide)] at h')
  f27 := fun h => by rw [getD_set_ne _ (by decide)]; exact H.f27 (by rwa [getD_set_ne _ (by decide)] at h)
  e27 := fun h => (H.e27 (by rwa [getD_set_ne _ (by decide)] at h))
  f28 := fun h => by rw [getD_set_ne _ (by decide)]; exact H.f28 (by rwa [getD_set_ne _ (by decide)] at h)
  e28 := fun h => (H.e28 (by rwa [getD_set_ne _ (by decide)] at h))
  f29 := fun h => by rw [getD_set_ne _ (by decide)]; exact H.f29 (by rwa [getD_set_ne _ (by decide)] at h)
  e29 := fun h => (H.e29 (by rwa [getD_set_ne _ (by decide)] at h))
theorem IvVx.o2 {x : World} {l : List Tm} {gt n nt gH nh capH i0 i1 i2 : Nat} {p0 p1 p2 : Pt} {L : Array Bool} {s6 s7 s8 s17 s18 s19 s20 s21 s22 s23 s24 s25 s26 s27 s28 s29 s30 s31 s32 s33 s34 s35 s36 s37 s38 s39 s40 : Value} {w : World} (H : IvVx x l gt n nt gH nh capH i0 i1 i2 p0 p1 p2 L s6 s7 s8 s17 s18 s19 s20 s21 s22 s23 s24 s25 s26 s27 s28 s29 s30 s31 s32 s33 s34 s35 s36 s37 s38 s39 s40 w)  : IvVx x l gt n nt gH nh capH i0 i1 i2 p0 p1 p2 (L.setIfInBounds 2 true) s6 s7 s8 s17 s18 (.slice (some ⟨gH, 0, none⟩) nh capH) s20 s21 s22 s23 s24 s25 s26 s27 s28 s29 s30 s31 s32 s33 s34 s35 s36 s37 s38 s39 s40 w where
  z := by rw [Array.size_setIfInBounds]; exact H.z
  bel := H.bel
  c0 := fun h => H.c0 (by rwa [getD_set_ne _ (by decide)] at h)
  c1 := fun h => H.c1 (by rwa [getD_set_ne _ (by decide)] at h)
  c2 := fun _ => rfl
  c3 := fun h => H.c3 (by rwa [getD_set_ne _ (by decide)] at h)
  c4 := fun h => H.c4 (by rwa [getD_set_ne _ (by decide)] at h)
  c5 := fun h => H.c5 (by rwa [getD_set_ne _ (by decide)] at h)
  c6 := fun h => H.c6 (by rwa [getD_set_ne _ (by decide)] at h)
  c7 := fun h => H.c7 (by rwa [getD_set_ne _ (by decide)] at h)
  c8 := fun h => H.c8 (by rwa [getD_set_ne _ (by decide)] at h)
  c9 := fun h => H.c9 (by rwa [getD_set_ne _ (by decide)] at h)
  c10 := fun h => H.c10 (by rwa [getD_set_ne _ (by decide)] at h)
  c11 := fun h => H.c11 (by rwa [getD_set_ne _ (by decide)] at h)
  c12 := fun h => H.c12 (by rwa [getD_set_ne _ (by decide)] at h)
  c13 := fun h => H.c13 (by rwa [getD_set_ne _ (by decide)] at h)
  c14 := fun h => H.c14 (by rwa [getD_set_ne _ (by decide)] at h)
  c15 := fun h => H.c15 (by rwa [getD_set_ne _ (by decide)] at h)
  c16 := fun h => H.c16 (by rwa [getD_set_ne _ (by decide)] at h)
  c17 := fun h => H.c17 (by rwa [getD_set_ne _ (by decide)] at h)
  c18 := fun h => H.c18 (by rwa [getD_set_ne _ (by decide)] at h)
  c19 := fun h => H.c19 (by rwa [getD_set_ne _ (by decide)] at h)
  c20 := fun h => H.c20 (by rwa [getD_set_ne _ (by decide)] at h)
  c21 := fun h => H.c21 (by rwa [getD_set_ne _ (by decide)] at h)
  c22 := fun h => H.c22 (by rwa [getD_set_ne _ (by decide)] at h)
  c23 := fun h => H.c23 (by rwa [getD_set_ne _ (by decide)] at h)
  b24 := fun h => (H.b24 (by rwa [getD_set_ne _ (by decide)] at h))
  b25 := fun h => (H.b25 (by rwa [getD_set_ne _ (by decide)] at h))
  b26 := fun h => (H.b26 (by rwa [getD_set_ne _ (by decide)] at h))
  d24_25 := fun h h' => H.d24_25 (by rwa [getD_set_ne _ (by decide)] at h) (by rwa [getD_set_ne _ (by decide)] at h')
  d24_26 := fun h h' => H.d24_26 (by rwa [getD_set_ne _ (by decide)] at h) (by rwa [getD_set_ne _ (by decide)] at h')
  d25_26 := fun h h' => H.d25_26 (by rwa [getD_set_ne _ (by decide)] at h) (by rwa [getD_set_ne _ (by decide)] at h')
  f27 := fun h => by rw [getD_set_ne _ (by decide)]; exact H.f27 (by rwa [getD_set_ne _ (by decide)] at h)
  e27 := fun h => (H.e27 (by rwa [getD_set_ne _ (by decide)] at h))
  f28 := fun h => by rw [getD_set_ne _ (by decide)]; exact H.f28 (by rwa [getD_set_ne _ (by decide)] at h)
  e28 := fun h => (H.e28 (by rwa [getD_set_ne _ (by decide)] at h))
  f29 := fun h => by rw [getD_set_ne _ (by decide)]; exact H.f29 (by rwa [getD_set_ne _ (by decide)] at h)
  e29 := fun h => (H.e29 (by rwa [getD_set_ne _ (by decide)] at h))
theorem IvVx.o3 {x : World} {l : List Tm} {gt n nt gH nh capH i0 i1 i2 : Nat} {p0 p1 p2 : Pt} {L : Array Bool} {s6 s7 s8 s17 s18 s19 s20 s21 s22 s23 s24 s25 s26 s27 s28 s29 s30 s31 s32 s33 s34 s35 s36 s37 s38 s39 s40 : Value} {w : World} (H : IvVx x l gt n nt gH nh capH i0 i1 i2 p0 p1 p2 L s6 s7 s8 s17 s18 s19 s20 s21 s22 s23 s24 s25 s26 s27 s28 s29 s30 s31 s32 s33 s34 s35 s36 s37 s38 s39 s40 w)  : IvVx x l gt n nt gH nh capH i0 i1 i2 p0 p1 p2 (L.setIfInBounds 3 true) s6 s7 s8 s17 s18 s19 (.pointer (some ⟨gH, 0, none⟩)) s21 s22 s23 s24 s25 s26 s27 s28 s29 s30 s31 s32 s33 s34 s35 s36 s37 s38 s39 s40 w where
  z := by rw [Array.size_setIfInBounds]; exact H.z
  bel := H.bel
  c0 := fun h => H.c0 (by rwa [getD_set_ne _ (by decide)] at h)
  c1 := fun h => H.c1 (by rwa [getD_set_ne _ (by decide)] at h)
  c2 := fun h => H.c2 (by rwa [getD_set_ne _ (by decide)] at h)
  c3 := fun _ => rfl
  c4 := fun h => H.c4 (by rwa [getD_set_ne _ (by decide)] at h)
  c5 := fun h => H.c5 (by rwa [getD_set_ne _ (by decide)] at h)
  c6 := fun h => H.c6 (by rwa [getD_set_ne _ (by decide)] at h)
  c7 := fun h => H.c7 (by rwa [getD_set_ne _ (by decide)] at h)
  c8 := fun h => H.c8 (by rwa [getD_set_ne _ (by decide)] at h)
  c9 := fun h => H.c9 (by rwa [getD_set_ne _ (by decide)] at h)
  c10 := fun h => H.c10 (by rwa [getD_set_ne _ (by decide)] at h)
  c11 := fun h => H.c11 (by rwa [getD_set_ne _ (by decide)] at h)
  c12 := fun h => H.c12 (by rwa [getD_set_ne _ (by decide)] at h)
  c13 := fun h => H.c13 (by rwa [getD_set_ne _ (by decide)] at h)
  c14 := fun h => H.c14 (by rwa [getD_set_ne _ (by decide)] at h)
  c15 := fun h => H.c15 (by rwa [getD_set_ne _ (by decide)] at h)
  c16 := fun h => H.c16 (by rwa [getD_set_ne _ (by decide)] at h)
  c17 := fun h => H.c17 (by rwa [getD_set_ne _ (by decide)] at h)
  c18 := fun h => H.c18 (by rwa [getD_set_ne _ (by decide)] at h)
  c19 := fun h => H.c19 (by rwa [getD_set_ne _ (by decide)] at h)
  c20 := fun h => H.c20 (by rwa [getD_set_ne _ (by decide)] at h)
  c21 := fun h => H.c21 (by rwa [getD_set_ne _ (by decide)] at h)
  c22 := fun h => H.c22 (by rwa [getD_set_ne _ (by decide)] at h)
  c23 := fun h => H.c23 (by rwa [getD_set_ne _ (by decide)] at h)
  b24 := fun h => (H.b24 (by rwa [getD_set_ne _ (by decide)] at h))
  b25 := fun h => (H.b25 (by rwa [getD_set_ne _ (by decide)] at h))
  b26 := fun h => (H.b26 (by rwa [getD_set_ne _ (by decide)] at h))
  d24_25 := fun h h' => H.d24_25 (by rwa [getD_set_ne _ (by decide)] at h) (by rwa [getD_set_ne _ (by decide)] at h')
  d24_26 := fun h h' => H.d24_26 (by rwa [getD_set_ne _ (by decide)] at h) (by rwa [getD_set_ne _ (by decide)] at h')
  d25_26 := fun h h' => H.d25_26 (by rwa [getD_set_ne _ (by decide)] at h) (by rwa [getD_set_ne _ (by decide)] at h')
  f27 := fun h => by rw [getD_set_ne _ (by decide)]; exact H.f27 (by rwa [getD_set_ne _ (by decide)] at h)
  e27 := fun h => (H.e27 (by rwa [getD_set_ne _ (by decide)] at h))
  f28 := fun h => by rw [getD_set_ne _ (by decide)]; exact H.f28 (by rwa [getD_set_ne _ (by decide)] at h)
  e28 := fun h => (H.e28 (by rwa [getD_set_ne _ (by decide)] at h))
  f29 := fun h => by rw [getD_set_ne _ (by decide)]; exact H.f29 (by rwa [getD_set_ne _ (by decide)] at h)
  e29 := fun h => (H.e29 (by rwa [getD_set_ne _ (by decide)] at h))
theorem IvVx.o4 {x : World} {l : List Tm} {gt n nt gH nh capH i0 i1 i2 : Nat} {p0 p1 p2 : Pt} {L : Array Bool} {s6 s7 s8 s17 s18 s19 s20 s21 s22 s23 s24 s25 s26 s27 s28 s29 s30 s31 s32 s33 s34 s35 s36 s37 s38 s39 s40 : Value} {w : World} (H : IvVx x l gt n nt gH nh capH i0 i1 i2 p0 p1 p2 L s6 s7 s8 s17 s18 s19 s20 s21 s22 s23 s24 s25 s26 s27 s28 s29 s30 s31 s32 s33 s34 s35 s36 s37 s38 s39 s40 w)  : IvVx x l gt n nt gH nh capH i0 i1 i2 p0 p1 p2 (L.setIfInBounds 4 true) s6 s7 s8 s17 s18 s19 s20 (ptV p0) s22 s23 s24 s25 s26 s27 s28 s29 s30 s31 s32 s33 s34 s35 s36 s37 s38 s39 s40 w where
  z := by rw [Array.size_setIfInBounds]; exact H.z
  bel := H.bel
  c0 := fun h => H.c0 (by rwa [getD_set_ne _ (by decide)] at h)
  c1 := fun h => H.c1 (by rwa [getD_set_ne _ (by decide)] at h)
  c2 := fun h => H.c2 (by rwa [getD_set_ne _ (by decide)] at h)
  c3 := fun h => H.c3 (by rwa [getD_set_ne _ (by decide)] at h)
  c4 := fun _ => rfl
  c5 := fun h => H.c5 (by rwa [getD_set_ne _ (by decide)] at h)
  c6 := fun h => H.c6 (by rwa [getD_set_ne _ (by decide)] at h)
  c7 := fun h => H.c7 (by rwa [getD_set_ne _ (by decide)] at h)
  c8 := fun h => H.c8 (by rwa [getD_set_ne _ (by decide)] at h)
  c9 := fun h => H.c9 (by rwa [getD_set_ne _ (by decide)] at h)
  c10 := fun h => H.c10 (by rwa [getD_set_ne _ (by decide)] at h)
  c11 := fun h => H.c11 (by rwa [getD_set_ne _ (by decide)] at h)
  c12 := fun h => H.c12 (by rwa [getD_set_ne _ (by decide)] at h)
  c13 := fun h => H.c13 (by rwa [getD_set_ne _ (by decide)] at h)
  c14 := fun h => H.c14 (by rwa [getD_set_ne _ (by decide)] at h)
  c15 := fun h => H.c15 (by rwa [getD_set_ne _ (by decide)] at h)
  c16 := fun h => H.c16 (by rwa [getD_set_ne _ (by decide)] at h)
  c17 := fun h => H.c17 (by rwa [getD_set_ne _ (by decide)] at h)
  c18 := fun h => H.c18 (by rwa [getD_set_ne _ (by decide)] at h)
  c19 := fun h => H.c19 (by rwa [getD_set_ne _ (by decide)] at h)
  c20 := fun h => H.c20 (by rwa [getD_set_ne _ (by decide)] at h)
  c21 := fun h => H.c21 (by rwa [getD_set_ne _ (by decide)] at h)
  c22 := fun h => H.c22 (by rwa [getD_set_ne _ (by decide)] at h)
  c23 := fun h => H.c23 (by rwa [getD_set_ne _ (by decide)] at h)
  b24 := fun h => (H.b24 (by rwa [getD_set_ne _ (by decide)] at h))
  b25 := fun h => (H.b25 (by rwa [getD_set_ne _ (by decide)] at h))
  b26 := fun h => (H.b26 (by rwa [getD_set_ne _ (by decide)] at h))
  d24_25 := fun h h' => H.d24_25 (by rwa [getD_set_ne _ (by decide)] at h) (by rwa [getD_set_ne _ (by decide)] at h')
  d24_26 := fun h h' => H.d24_26 (by rwa [getD_set_ne _ (by decide)] at h) (by rwa [getD_set_ne _ (by decide)] at h')
  d25_26 := fun h h' => H.d25_26 (by rwa [getD_set_ne _ (by decide)] at h) (by rwa [getD_set_ne _ (by decide)] at h')
  f27 := fun h => by rw [getD_set_ne _ (by decide)]; exact H.f27 (by rwa [getD_set_ne _ (by decide)] at h)
  e27 := fun h => (H.e27 (by rwa [getD_set_ne _ (by decide)] at h))
  f28 := fun h => by rw [getD_set_ne _ (by decide)]; exact H.f28 (by rwa [getD_set_ne _ (by decide)] at h)
  e28 := fun h => (H.e28 (by rwa [getD_set_ne _ (by decide)] at h))
  f29 := fun h => by rw [getD_set_ne _ (by decide)]; exact H.f29 (by rwa [getD_set_ne _ (by decide)] at h)
  e29 := fun h => (H.e29 (by rwa [getD_set_ne _ (by decide)] at h))
theorem IvVx.o5 {x : World} {l : List Tm} {gt n nt gH nh capH i0 i1 i2 : Nat} {p0 p1 p2 : Pt} {L : Array Bool} {s6 s7 s8 s17 s18 s19 s20 s21 s22 s23 s24 s25 s26 s27 s28 s29 s30 s31 s32 s33 s34 s35 s36 s37 s38 s39 s40 : Value} {w : World} (H : IvVx x l gt n nt gH nh capH i0 i1 i2 p0 p1 p2 L s6 s7 s8 s17 s18 s19 s20 s21 s22 s23 s24 s25 s26 s27 s28 s29 s30 s31 s32 s33 s34 s35 s36 s37 s38 s39 s40 w) {w' : World} (hg : Below w.heap.size w w') : IvVx x l gt n nt gH nh capH i0 i1 i2 p0 p1 p2 (L.setIfInBounds 5 true) s6 s7 s8 s17 s18 s19 s20 s21 (.int .i64 (i0 : Int)) s23 s24 s25 s26 s27 s28 s29 s30 s31 s32 s33 s34 s35 s36 s37 s38 s39 s40 w' where
  z := by rw [Array.size_setIfInBounds]; exact H.z
  bel := bel2 H.bel hg
  c0 := fun h => H.c0 (by rwa [getD_set_ne _ (by decide)] at h)
  c1 := fun h => H.c1 (by rwa [getD_set_ne _ (by decide)] at h)
  c2 := fun h => H.c2 (by rwa [getD_set_ne _ (by decide)] at h)
  c3 := fun h => H.c3 (by rwa [getD_set_ne _ (by decide)] at h)
  c4 := fun h => H.c4 (by rwa [getD_set_ne _ (by decide)] at h)
  c5 := fun _ => rfl
  c6 := fun h => H.c6 (by rwa [getD_set_ne _ (by decide)] at h)
  c7 := fun h => H.c7 (by rwa [getD_set_ne _ (by decide)] at h)
  c8 := fun h => H.c8 (by rwa [getD_set_ne _ (by decide)] at h)
  c9 := fun h => H.c9 (by rwa [getD_set_ne _ (by decide)] at h)
  c10 := fun h => H.c10 (by rwa [getD_set_ne _ (by decide)] at h)
  c11 := fun h => H.c11 (by rwa [getD_set_ne _ (by decide)] at h)
  c12 := fun h => H.c12 (by rwa [getD_set_ne _ (by decide)] at h)
  c13 := fun h => H.c13 (by rwa [getD_set_ne _ (by decide)] at h)
  c14 := fun h => H.c14 (by rwa [getD_set_ne _ (by decide)] at h)
  c15 := fun h => H.c15 (by rwa [getD_set_ne _ (by decide)] at h)
  c16 := fun h => H.c16 (by rwa [getD_set_ne _ (by decide)] at h)
  c17 := fun h => H.c17 (by rwa [getD_set_ne _ (by decide)] at h)
  c18 := fun h => H.c18 (by rwa [getD_set_ne _ (by decide)] at h)
  c19 := fun h => H.c19 (by rwa [getD_set_ne _ (by decide)] at h)
  c20 := fun h => H.c20 (by rwa [getD_set_ne _ (by decide)] at h)
  c21 := fun h => H.c21 (by rwa [getD_set_ne _ (by decide)] at h)
  c22 := fun h => H.c22 (by rwa [getD_set_ne _ (by decide)] at h)
  c23 := fun h => H.c23 (by rwa [getD_set_ne _ (by decide)] at h)
  b24 := fun h => (H.b24 (by rwa [getD_set_ne _ (by decide)] at h)).imp fun _ k => k.gr hg
  b25 := fun h => (H.b25 (by rwa [getD_set_ne _ (by decide)] at h)).imp fun _ k => k.gr hg
  b26 := fun h => (H.b26 (by rwa [getD_set_ne _ (by decide)] at h)).imp fun _ k => k.gr hg
  d24_25 := fun h h' => H.d24_25 (by rwa [getD_set_ne _ (by decide)] at h) (by rwa [getD_set_ne _ (by decide)] at h')
  d24_26 := fun h h' => H.d24_26 (by rwa [getD_set_ne _ (by decide)] at h) (by rwa [getD_set_ne _ (by decide)] at h')
  d25_26 := fun h h' => H.d25_26 (by rwa [getD_set_ne _ (by decide)] at h) (by rwa [getD_set_ne _ (by decide)] at h')
  f27 := fun h => by rw [getD_set_ne _ (by decide)]; exact H.f27 (by rwa [getD_set_ne _ (by decide)] at h)
  e27 := fun h => (H.e27 (by rwa [getD_set_ne _ (by decide)] at h)).gr hg
  f28 := fun h => by rw [getD_set_ne _ (by decide)]; exact H.f28 (by rwa [getD_set_ne _ (by decide)] at h)
  e28 := fun h => (H.e28 (by rwa [getD_set_ne _ (by decide)] at h)).gr hg
  f29 := fun h => by rw [getD_set_ne _ (by decide)]; exact H.f29 (by rwa [getD_set_ne _ (by decide)] at h)
  e29 := fun h => (H.e29 (by rwa [getD_set_ne _ (by decide)] at h)).gr hg
theorem IvVx.o6 {x : World} {l : List Tm} {gt n nt gH nh capH i0 i1 i2 : Nat} {p0 p1 p2 : Pt} {L : Array Bool} {s6 s7 s8 s17 s18 s19 s20 s21 s22 s23 s24 s25 s26 s27 s28 s29 s30 s31 s32 s33 s34 s35 s36 s37 s38 s39 s40 : Value} {w : World} (H : IvVx x l gt n nt gH nh capH i0 i1 i2 p0 p1 p2 L s6 s7 s8 s17 s18 s19 s20 s21 s22 s23 s24 s25 s26 s27 s28 s29 s30 s31 s32 s33 s34 s35 s36 s37 s38 s39 s40 w)  : IvVx x l gt n nt gH nh capH i0 i1 i2 p0 p1 p2 (L.setIfInBounds 6 true) s6 s7 s8 s17 s18 s19 s20 s21 s22 (.pointer (some ⟨gt, i0 * 3, none⟩)) s24 s25 s26 s27 s28 s29 s30 s31 s32 s33 s34 s35 s36 s37 s38 s39 s40 w where
  z := by rw [Array.size_setIfInBounds]; exact H.z
  bel := H.bel
  c0 := fun h => H.c0 (by rwa [getD_set_ne _ (by decide)] at h)
  c1 := fun h => H.c1 (by rwa [getD_set_ne _ (by decide)] at h)
  c2 := fun h => H.c2 (by rwa [getD_set_ne _ (by decide)] at h)
  c3 := fun h => H.c3 (by rwa [getD_set_ne _ (by decide)] at h)
  c4 := fun h => H.c4 (by rwa [getD_set_ne _ (by decide)] at h)
  c5 := fun h => H.c5 (by rwa [getD_set_ne _ (by decide)] at h)
  c6 := fun _ => rfl
  c7 := fun h => H.c7 (by rwa [getD_set_ne _ (by decide)] at h)
  c8 := fun h => H.c8 (by rwa [getD_set_ne _ (by decide)] at h)
  c9 := fun h => H.c9 (by rwa [getD_set_ne _ (by decide)] at h)
  c10 := fun h => H.c10 (by rwa [getD_set_ne _ (by decide)] at h)
  c11 := fun h => H.c11 (by rwa [getD_set_ne _ (by decide)] at h)
  c12 := fun h => H.c12 (by rwa [getD_set_ne _ (by decide)] at h)
  c13 := fun h => H.c13 (by rwa [getD_set_ne _ (by decide)] at h)
  c14 := fun h => H.c14 (by rwa [getD_set_ne _ (by decide)] at h)
  c15 := fun h => H.c15 (by rwa [getD_set_ne _ (by decide)] at h)
  c16 := fun h => H.c16 (by rwa [getD_set_ne _ (by decide)] at h)
  c17 := fun h => H.c17 (by rwa [getD_set_ne _ (by decide)] at h)
  c18 := fun h => H.c18 (by rwa [getD_set_ne _ (by decide)] at h)
  c19 := fun h => H.c19 (by rwa [getD_set_ne _ (by decide)] at h)
  c20 := fun h => H.c20 (by rwa [getD_set_ne _ (by decide)] at h)
  c21 := fun h => H.c21 (by rwa [getD_set_ne _ (by decide)] at h)
  c22 := fun h => H.c22 (by rwa [getD_set_ne _ (by decide)] at h)
  c23 := fun h => H.c23 (by rwa [getD_set_ne _ (by decide)] at h)
  b24 := fun h => (H.b24 (by rwa [getD_set_ne _ (by decide)] at h))
  b25 := fun h => (H.b25 (by rwa [getD_set_ne _ (by decide)] at h))
  b26 := fun h => (H.b26 (by rwa [getD_set_ne _ (by decide)] at h))
  d24_25 := fun h h' => H.d24_25 (by rwa [getD_set_ne _ (by decide)] at h) (by rwa [getD_set_ne _ (by decide)] at h')
  d24_26 := fun h h' => H.d24_26 (by rwa [getD_set_ne _ (by decide)] at h) (by rwa [getD_set_ne _ (by decide)] at h')
  d25_26 := fun h h' => H.d25_26 (by rwa [getD_set_ne _ (by decide)] at h) (by rwa [getD_set_ne _ (by decide)] at h')
  f27 := fun h => by rw [getD_set_ne _ (by decide)]; exact H.f27 (by rwa [getD_set_ne _ (by decide)] at h)
  e27 := fun h => (H.e27 (by rwa [getD_set_ne _ (by decide)] at h))
  f28 := fun h => by rw [getD_set_ne _ (by decide)]; exact H.f28 (by rwa [getD_set_ne _ (by decide)] at h)
  e28 := fun h => (H.e28 (by rwa [getD_set_ne _ (by decide)] at h))
  f29 := fun h => by rw [getD_set_ne _ (by decide)]; exact H.f29 (by rwa [getD_set_ne _ (by decide)] at h)
  e29 := fun h => (H.e29 (by rwa [getD_set_ne _ (by decide)] at h))
theorem IvVx.o7 {x : World} {l : List Tm} {gt n nt gH nh capH i0 i1 i2 : Nat} {p0 p1 p2 : Pt} {L : Array Bool} {s6 s7 s8 s17 s18 s19 s20 s21 s22 s23 s24 s25 s26 s27 s28 s29 s30 s31 s32 s33 s34 s35 s36 s37 s38 s39 s40 : Value} {w : World} (H : IvVx x l gt n nt gH nh capH i0 i1 i2 p0 p1 p2 L s6 s7 s8 s17 s18 s19 s20 s21 s22 s23 s24 s25 s26 s27 s28 s29 s30 s31 s32 s33 s34 s35 s36 s37 s38 s39 s40 w)  : IvVx x l gt n nt gH nh capH i0 i1 i2 p0 p1 p2 (L.setIfInBounds 7 true) s6 s7 s8 s17 s18 s19 s20 s21 s22 s23 (tmV (td l i0)) s25 s26 s27 s28 s29 s30 s31 s32 s33 s34 s35 s36 s37 s38 s39 s40 w where
  z := by rw [Array.size_setIfInBounds]; exact H.z
  bel := H.bel
  c0 := fun h => H.c0 (by rwa [getD_set_ne _ (by decide)] at h)
  c1 := fun h => H.c1 (by rwa [getD_set_ne _ (by decide)] at h)
  c2 := fun h => H.c2 (by rwa [getD_set_ne _ (by decide)] at h)
  c3 := fun h => H.c3 (by rwa [getD_set_ne _ (by decide)] at h)
  c4 := fun h => H.c4 (by rwa [getD_set_ne _ (by decide)] at h)
  c5 := fun h => H.c5 (by rwa [getD_set_ne _ (by decide)] at h)
  c6 := fun h => H.c6 (by rwa [getD_set_ne _ (by decide)] at h)
  c7 := fun _ => rfl
  c8 := fun h => H.c8 (by rwa [getD_set_ne _ (by decide)] at h)
  c9 := fun h => H.c9 (by rwa [getD_set_ne _ (by decide)] at h)
  c10 := fun h => H.c10 (by rwa [getD_set_ne _ (by decide)] at h)
  c11 := fun h => H.c11 (by rwa [getD_set_ne _ (by decide)] at h)
  c12 := fun h => H.c12 (by rwa [getD_set_ne _ (by decide)] at h)
  c13 := fun h => H.c13 (by rwa [getD_set_ne _ (by decide)] at h)
  c14 := fun h => H.c14 (by rwa [getD_set_ne _ (by decide)] at h)
  c15 := fun h => H.c15 (by rwa [getD_set_ne _ (by decide)] at h)
  c16 := fun h => H.c16 (by rwa [getD_set_ne _ (by decide)] at h)
  c17 := fun h => H.c17 (by rwa [getD_set_ne _ (by decide)] at h)
  c18 := fun h => H.c18 (by rwa [getD_set_ne _ (by decide)] at h)
  c19 := fun h => H.c19 (by rwa [getD_set_ne _ (by decide)] at h)
  c20 := fun h => H.c20 (by rwa [getD_set_ne _ (by decide)] at h)
  c21 := fun h => H.c21 (by rwa [getD_set_ne _ (by decide)] at h)
  c22 := fun h => H.c22 (by rwa [getD_set_ne _ (by decide)] at h)
  c23 := fun h => H.c23 (by rwa [getD_set_ne _ (by decide)] at h)
  b24 := fun h => (H.b24 (by rwa [getD_set_ne _ (by decide)] at h))
  b25 := fun h => (H.b25 (by rwa [getD_set_ne _ (by decide)] at h))
  b26 := fun h => (H.b26 (by rwa [getD_set_ne _ (by decide)] at h))
  d24_25 := fun h h' => H.d24_25 (by rwa [getD_set_ne _ (by decide)] at h) (by rwa [getD_set_ne _ (by decide)] at h')
  d24_26 := fun h h' => H.d24_26 (by rwa [getD_set_ne _ (by decide)] at h) (by rwa [getD_set_ne _ (by decide)] at h')
  d25_26 := fun h h' => H.d25_26 (by rwa [getD_set_ne _ (by decide)] at h) (by rwa [getD_set_ne _ (by decide)] at h')
  f27 := fun h => by rw [getD_set_ne _ (by decide)]; exact H.f27 (by rwa [getD_set_ne _ (by decide)] at h)
  e27 := fun h => (H.e27 (by rwa [getD_set_ne _ (by decide)] at h))
  f28 := fun h => by rw [getD_set_ne _ (by decide)]; exact H.f28 (by rwa [getD_set_ne _ (by decide)] at h)
  e28 := fun h => (H.e28 (by rwa [getD_set_ne _ (by decide)] at h))
  f29 := fun h => by rw [getD_set_ne _ (by decide)]; exact H.f29 (by rwa [getD_set_ne _ (by decide)] at h)
  e29 := fun h => (H.e29 (by rwa [getD_set_ne _ (by decide)] at h))
theorem IvVx.o8 {x : World} {l : List Tm} {gt n nt gH nh capH i0 i1 i2 : Nat} {p0 p1 p2 : Pt} {L : Array Bool} {s6 s7 s8 s17 s18 s19 s20 s21 s22 s23 s24 s25 s26 s27 s28 s29 s30 s31 s32 s33 s34 s35 s36 s37 s38 s39 s40 : Value} {w : World} (H : IvVx x l gt n nt gH nh capH i0 i1 i2 p0 p1 p2 L s6 s7 s8 s17 s18 s19 s20 s21 s22 s23 s24 s25 s26 s27 s28 s29 s30 s31 s32 s33 s34 s35 s36 s37 s38 s39 s40 w)  : IvVx x l gt n nt gH nh capH i0 i1 i2 p0 p1 p2 (L.setIfInBounds 8 true) s6 s7 s8 s17 s18 s19 s20 s21 s22 s23 s24 (.slice (some ⟨gt, 0, none⟩) n nt) s26 s27 s28 s29 s30 s31 s32 s33 s34 s35 s36 s37 s38 s39 s40 w where
  z := by rw [Array.size_setIfInBounds]; exact H.z
  bel := H.bel
  c0 := fun h => H.c0 (by rwa [getD_set_ne _ (by decide)] at h)
  c1 := fun h => H.c1 (by rwa [getD_set_ne _ (by decide)] at h)
  c2 := fun h => H.c2 (by rwa [getD_set_ne _ (by decide)] at h)
  c3 := fun h => H.c3 (by rwa [getD_set_ne _ (by decide)] at h)
  c4 := fun h => H.c4 (by rwa [getD_set_ne _ (by decide)] at h)
  c5 := fun h => H.c5 (by rwa [getD_set_ne _ (by decide)] at h)
  c6 := fun h => H.c6 (by rwa [getD_set_ne _ (by decide)] at h)
  c7 := fun h => H.c7 (by rwa [getD_set_ne _ (by decide)] at h)
  c8 := fun _ => rfl
  c9 := fun h => H.c9 (by rwa [getD_set_ne _ (by decide)] at h)
  c10 := fun h => H.c10 (by rwa [getD_set_ne _ (by decide)] at h)
  c11 := fun h => H.c11 (by rwa [getD_set_ne _ (by decide)] at h)
  c12 := fun h => H.c12 (by rwa [getD_set_ne _ (by decide)] at h)
  c13 := fun h => H.c13 (by rwa [getD_set_ne _ (by decide)] at h)
  c14 := fun h => H.c14 (by rwa [getD_set_ne _ (by decide)] at h)
  c15 := fun h => H.c15 (by rwa [getD_set_ne _ (by decide)] at h)
  c16 := fun h => H.c16 (by rwa [getD_set_ne _ (by decide)] at h)
  c17 := fun h => H.c17 (by rwa [getD_set_ne _ (by decide)] at h)
  c18 := fun h => H.c18 (by rwa [getD_set_ne _ (by decide)] at h)
  c19 := fun h => H.c19 (by rwa [getD_set_ne _ (by decide)] at h)
  c20 := fun h => H.c20 (by rwa [getD_set_ne _ (by decide)] at h)
  c21 := fun h => H.c21 (by rwa [getD_set_ne _ (by decide)] at h)
  c22 := fun h => H.c22 (by rwa [getD_set_ne _ (by decide)] at h)
  c23 := fun h => H.c23 (by rwa [getD_set_ne _ (by decide)] at h)
  b24 := fun h => (H.b24 (by rwa [getD_set_ne _ (by decide)] at h))
  b25 := fun h => (H.b25 (by rwa [getD_set_ne _ (by decide)] at h))
  b26 := fun h => (H.b26 (by rwa [getD_set_ne _ (by decide)] at h))
  d24_25 := fun h h' => H.d24_25 (by rwa [getD_set_ne _ (by decide)] at h) (by rwa [getD_set_ne _ (by decide)] at h')
  d24_26 := fun h h' => H.d24_26 (by rwa [getD_set_ne _ (by decide)] at h) (by rwa [getD_set_ne _ (by decide)] at h')
  d25_26 := fun h h' => H.d25_26 (by rwa [getD_set_ne _ (by decide)] at h) (by rwa [getD_set_ne _ (by decide)] at h')
  f27 := fun h => by rw [getD_set_ne _ (by decide)]; exact H.f27 (by rwa [getD_set_ne _ (by decide)] at h)
  e27 := fun h => (H.e27 (by rwa [getD_set_ne _ (by decide)] at h))
  f28 := fun h => by rw [getD_set_ne _ (by decide)]; exact H.f28 (by rwa [getD_set_ne _ (by decide)] at h)
  e28 := fun h => (H.e28 (by rwa [getD_set_ne _ (by decide)] at h))
  f29 := fun h => by rw [getD_set_ne _ (by decide)]; exact H.f29 (by rwa [getD_set_ne _ (by decide)] at h)
  e29 := fun h => (H.e29 (by rwa [getD_set_ne _ (by decide)] at h))
theorem IvVx.o9 {x : World} {l : List Tm} {gt n nt gH nh capH i0 i1 i2 : Nat} {p0 p1 p2 : Pt} {L : Array Bool} {s6 s7 s8 s17 s18 s19 s20 s21 s22 s23 s24 s25 s26 s27 s28 s29 s30 s31 s32 s33 s34 s35 s36 s37 s38 s39 s40 : Value} {w : World} (H : IvVx x l gt n nt gH nh capH i0 i1 i2 p0 p1 p2 L s6 s7 s8 s17 s18 s19 s20 s21 s22 s23 s24 s25 s26 s27 s28 s29 s30 s31 s32 s33 s34 s35 s36 s37 s38 s39 s40 w)  : IvVx x l gt n nt gH nh capH i0 i1 i2 p0 p1 p2 (L.setIfInBounds 9 true) s6 s7 s8 s17 s18 s19 s20 s21 s22 s23 s24 s25 (.slice (some ⟨gt, 0, none⟩) n nt) s27 s28 s29 s30 s31 s32 s33 s34 s35 s36 s37 s38 s39 s40 w where
  z := by rw [Array.size_setIfInBounds]; exact H.z
  bel := H.bel
  c0 := fun h => H.c0 (by rwa [getD_set_ne _ (by decide)] at h)
  c1 := fun h => H.c1 (by rwa [getD_set_ne _ (by decide)] at h)
  c2 := fun h => H.c2 (by rwa [getD_set_ne _ (by decide)] at h)
  c3 := fun h => H.c3 (by rwa [getD_set_ne _ (by decide)] at h)
  c4 := fun h => H.c4 (by rwa [getD_set_ne _ (by decide)] at h)
  c5 := fun h => H.c5 (by rwa [getD_set_ne _ (by decide)] at h)
  c6 := fun h => H.c6 (by rwa [getD_set_ne _ (by decide)] at h)
  c7 := fun h => H.c7 (by rwa [getD_set_ne _ (by decide)] at h)
  c8 := fun h => H.c8 (by rwa [getD_set_ne _ (by decide)] at h)
  c9 := fun _ => rfl
  c10 := fun h => H.c10 (by rwa [getD_set_ne _ (by decide)] at h)
  c11 := fun h => H.c11 (by rwa [getD_set_ne _ (by decide)] at h)
  c12 := fun h => H.c12 (by rwa [getD_set_ne _ (by decide)] at h)
  c13 := fun h => H.c13 (by rwa [getD_set_ne _ (by decide)] at h)
  c14 := fun h => H.c14 (by rwa [getD_set_ne _ (by decide)] at h)
  c15 := fun h => H.c15 (by rwa [getD_set_ne _ (by decide)] at h)
  c16 := fun h => H.c16 (by rwa [getD_set_ne _ (by decide)] at h)
  c17 := fun h => H.c17 (by rwa [getD_set_ne _ (by decide)] at h)
  c18 := fun h => H.c18 (by rwa [getD_set_ne _ (by decide)] at h)
  c19 := fun h => H.c19 (by rwa [getD_set_ne _ (by decide)] at h)
  c20 := fun h => H.c20 (by rwa [getD_set_ne _ (by decide)] at h)
  c21 := fun h => H.c21 (by rwa [getD_set_ne _ (by decide)] at h)
  c22 := fun h => H.c22 (by rwa [getD_set_ne _ (by decide)] at h)
  c23 := fun h => H.c23 (by rwa [getD_set_ne _ (by decide)] at h)
  b24 := fun h => (H.b24 (by rwa [getD_set_ne _ (by decide)] at h))
  b25 := fun h => (H.b25 (by rwa [getD_set_ne _ (by decide)] at h))
  b26 := fun h => (H.b26 (by rwa [getD_set_ne _ (by decide)] at h))
  d24_25 := fun h h' => H.d24_25 (by rwa [getD_set_ne _ (by decide)] at h) (by rwa [getD_set_ne _ (by decide)] at h')
  d24_26 := fun h h' => H.d24_26 (by rwa [getD_set_ne _ (by decide)] at h) (by rwa [getD_set_ne _ (by decide)] at h')
  d25_26 := fun h h' => H.d25_26 (by rwa [getD_set_ne _ (by decide)] at h) (by rwa [getD_set_ne _ (by decide)] at h')
  f27 := fun h => by rw [getD_set_ne _ (by decide)]; exact H.f27 (by rwa [getD_set_ne _ (by decide)] at h)
  e27 := fun h => (H.e27 (by rwa [getD_set_ne _ (by decide)] at h))
  f28 := fun h => by rw [getD_set_ne _ (by decide)]; exact H.f28 (by rwa [getD_set_ne _ (by decide)] at h)
  e28 := fun h => (H.e28 (by rwa [getD_set_ne _ (by decide)] at h))
  f29 := fun h => by rw [getD_set_ne _ (by decide)]; exact H.f29 (by rwa [getD_set_ne _ (by decide)] at h)
  e29 := fun h => (H.e29 (by rwa [getD_set_ne _ (by decide)] at h))
theorem IvVx.o10 {x : World} {l : List Tm} {gt n nt gH nh capH i0 i1 i2 : Nat} {p0 p1 p2 : Pt} {L : Array Bool} {s6 s7 s8 s17 s18 s19 s20 s21 s22 s23 s24 s25 s26 s27 s28 s29 s30 s31 s32 s33 s34 s35 s36 s37 s38 s39 s40 : Value} {w : World} (H : IvVx x l gt n nt gH nh capH i0 i1 i2 p0 p1 p2 L s6 s7 s8 s17 s18 s19 s20 s21 s22 s23 s24 s25 s26 s27 s28 s29 s30 s31 s32 s33 s34 s35 s36 s37 s38 s39 s40 w)  : IvVx x l gt n nt gH nh capH i0 i1 i2 p0 p1 p2 (L.setIfInBounds 10 true) s6 s7 s8 s17 s18 s19 s20 s21 s22 s23 s24 s25 s26 (.slice (some ⟨gH, 0, none⟩) nh capH) s28 s29 s30 s31 s32 s33 s34 s35 s36 s37 s38 s39 s40 w where
  z := by rw [Array.size_setIfInBounds]; exact H.z
  bel := H.bel
  c0 := fun h => H.c0 (by rwa [getD_set_ne _ (by decide)] at h)
  c1 := fun h => H.c1 (by rwa [getD_set_ne _ (by decide)] at h)
  c2 := fun h => H.c2 (by rwa [getD_set_ne _ (by decide)] at h)
  c3 := fun h => H.c3 (by rwa [getD_set_ne _ (by decide)] at h)
  c4 := fun h => H.c4 (by rwa [getD_set_ne _ (by decide)] at h)
  c5 := fun h => H.c5 (by rwa [getD_set_ne _ (by decide)] at h)
  c6 := fun h => H.c6 (by rwa [getD_set_ne _ (by decide)] at h)
  c7 := fun h => H.c7 (by rwa [getD_set_ne _ (by decide)] at h)
  c8 := fun h => H.c8 (by rwa [getD_set_ne _ (by decide)] at h)
  c9 := fun h => H.c9 (by rwa [getD_set_ne _ (by decide)] at h)
  c10 := fun _ => rfl
  c11 := fun h => H.c11 (by rwa [getD_set_ne _ (by decide)] at h)
  c12 := fun h => H.c12 (by rwa [getD_set_ne _ (by decide)] at h)
  c13 := fun h => H.c13 (by rwa [getD_set_ne _ (by decide)] at h)
  c14 := fun h => H.c14 (by rwa [getD_set_ne _ (by decide)] at h)
  c15 := fun h => H.c15 (by rwa [getD_set_ne _ (by decide)] at h)
  c16 := fun h => H.c16 (by rwa [getD_set_ne _ (by decide)] at h)
  c17 := fun h => H.c17 (by rwa [getD_set_ne _ (by decide)] at h)
  c18 := fun h => H.c18 (by rwa [getD_set_ne _ (by decide)] at h)
  c19 := fun h => H.c19 (by rwa [getD_set_ne _ (by decide)] at h)
  c20 := fun h => H.c20 (by rwa [getD_set_ne _ (by decide)] at h)
  c21 := fun h => H.c21 (by rwa [getD_set_ne _ (by decide)] at h)
  c22 := fun h => H.c22 (by rwa [getD_set_ne _ (by decide)] at h)
  c23 := fun h => H.c23 (by rwa [getD_set_ne _ (by decide)] at h)
  b24 := fun h => (H.b24 (by rwa [getD_set_ne _ (by decide)] at h))
  b25 := fun h => (H.b25 (by rwa [getD_set_ne _ (by decide)] at h))
  b26 := fun h => (H.b26 (by rwa [getD_set_ne _ (by decide)] at h))
  d24_25 := fun h h' => H.d24_25 (by rwa [getD_set_ne _ (by decide)] at h) (by rwa [getD_set_ne _ (by decide)] at h')
  d24_26 := fun h h' => H.d24_26 (by rwa [getD_set_ne _ (by decide)] at h) (by rwa [getD_set_ne _ (by decide)] at h')
  d25_26 := fun h h' => H.d25_26 (by rwa [getD_set_ne _ (by decide)] at h) (by rwa [getD_set_ne _ (by decide)] at h')
  f27 := fun h => by rw [getD_set_ne _ (by decide)]; exact H.f27 (by rwa [getD_set_ne _ (by decide)] at h)
  e27 := fun h => (H.e27 (by rwa [getD_set_ne _ (by decide)] at h))
  f28 := fun h => by rw [getD_set_ne _ (by decide)]; exact H.f28 (by rwa [getD_set_ne _ (by decide)] at h)
  e28 := fun h => (H.e28 (by rwa [getD_set_ne _ (by decide)] at h))
  f29 := fun h => by rw [getD_set_ne _ (by decide)]; exact H.f29 (by rwa [getD_set_ne _ (by decide)] at h)
  e29 := fun h => (H.e29 (by rwa [getD_set_ne _ (by decide)] at h))
theorem IvVx.o11 {x : World} {l : List Tm} {gt n nt gH nh capH i0 i1 i2 : Nat} {p0 p1 p2 : Pt} {L : Array Bool} {s6 s7 s8 s17 s18 s19 s20 s21 s22 s23 s24 s25 s26 s27 s28 s29 s30 s31 s32 s33 s34 s35 s36 s37 s38 s39 s40 : Value} {w : World} (H : IvVx x l gt n nt gH nh capH i0 i1 i2 p0 p1 p2 L s6 s7 s8 s17 s18 s19 s20 s21 s22 s23 s24 s25 s26 s27 s28 s29 s30 s31 s32 s33 s34 s35 s36 s37 s38 s39 s40 w)  : IvVx x l gt n nt gH nh capH i0 i1 i2 p0 p1 p2 (L.setIfInBounds 11 true) s6 s7 s8 s17 s18 s19 s20 s21 s22 s23 s24 s25 s26 s27 (.pointer (some ⟨gH, 2, none⟩)) s29 s30 s31 s32 s33 s34 s35 s36 s37 s38 s39 s40 w where
  z := by rw [Array.size_setIfInBounds]; exact H.z
  bel := H.bel
  c0 := fun h => H.c0 (by rwa [getD_set_ne _ (by decide)] at h)
  c1 := fun h => H.c1 (by rwa [getD_set_ne _ (by decide)] at h)
  c2 := fun h => H.c2 (by rwa [getD_set_ne _ (by decide)] at h)
  c3 := fun h => H.c3 (by rwa [getD_set_ne _ (by decide)] at h)
  c4 := fun h => H.c4 (by rwa [getD_set_ne _ (by decide)] at h)
  c5 := fun h => H.c5 (by rwa [getD_set_ne _ (by decide)] at h)
  c6 := fun h => H.c6 (by rwa [getD_set_ne _ (by decide)] at h)
  c7 := fun h => H.c7 (by rwa [getD_set_ne _ (by decide)] at h)
  c8 := fun h => H.c8 (by rwa [getD_set_ne _ (by decide)] at h)
  c9 := fun h => H.c9 (by rwa [getD_set_ne _ (by decide)] at h)
  c10 := fun h => H.c10 (by rwa [getD_set_ne _ (by decide)] at h)
  c11 := fun _ => rfl
  c12 := fun h => H.c12 (by rwa [getD_set_ne _ (by decide)] at h)
  c13 := fun h => H.c13 (by rwa [getD_set_ne _ (by decide)] at h)
  c14 := fun h => H.c14 (by rwa [getD_set_ne _ (by decide)] at h)
  c15 := fun h => H.c15 (by rwa [getD_set_ne _ (by decide)] at h)
  c16 := fun h => H.c16 (by rwa [getD_set_ne _ (by decide)] at h)
  c17 := fun h => H.c17 (by rwa [getD_set_ne _ (by decide)] at h)
  c18 := fun h => H.c18 (by rwa [getD_set_ne _ (by decide)] at h)
  c19 := fun h => H.c19 (by rwa [getD_set_ne _ (by decide)] at h)
  c20 := fun h => H.c20 (by rwa [getD_set_ne _ (by decide)] at h)
  c21 := fun h => H.c21 (by rwa [getD_set_ne _ (by decide)] at h)
  c22 := fun h => H.c22 (by rwa [getD_set_ne _ (by decide)] at h)
  c23 := fun h => H.c23 (by rwa [getD_set_ne _ (by decide)] at h)
  b24 := fun h => (H.b24 (by rwa [getD_set_ne _ (by decide)] at h))
  b25 := fun h => (H.b25 (by rwa [getD_set_ne _ (by decide)] at h))
  b26 := fun h => (H.b26 (by rwa [getD_set_ne _ (by decide)] at h))
  d24_25 := fun h h' => H.d24_25 (by rwa [getD_set_ne _ (by decide)] at h) (by rwa [getD_set_ne _ (by decide)] at h')
  d24_26 := fun h h' => H.d24_26 (by rwa [getD_set_ne _ (by decide)] at h) (by rwa [getD_set_ne _ (by decide)] at h')
  d25_26 := fun h h' => H.d25_26 (by rwa [getD_set_ne _ (by decide)] at h) (by rwa [getD_set_ne _ (by decide)] at h')
  f27 := fun h => by rw [getD_set_ne _ (by decide)]; exact H.f27 (by rwa [getD_set_ne _ (by decide)] at h)
  e27 := fun h => (H.e27 (by rwa [getD_set_ne _ (by decide)] at h))
  f28 := fun h => by rw [getD_set_ne _ (by decide)]; exact H.f28 (by rwa [getD_set_ne _ (by decide)] at h)
  e28 := fun h => (H.e28 (by rwa [getD_set_ne _ (by decide)] at h))
  f29 := fun h => by rw [getD_set_ne _ (by decide)]; exact H.f29 (by rwa [getD_set_ne _ (by decide)] at h)
  e29 := fun h => (H.e29 (by rwa [getD_set_ne _ (by decide)] at h))
theorem IvVx.o12 {x : World} {l : List Tm} {gt n nt gH nh capH i0 i1 i2 : Nat} {p0 p1 p2 : Pt} {L : Array Bool} {s6 s7 s8 s17 s18 s19 s20 s21 s22 s23 s24 s25 s26 s27 s28 s29 s30 s31 s32 s33 s34 s35 s36 s37 s38 s39 s40 : Value} {w : World} (H : IvVx x l gt n nt gH nh capH i0 i1 i2 p0 p1 p2 L s6 s7 s8 s17 s18 s19 s20 s21 s22 s23 s24 s25 s26 s27 s28 s29 s30 s31 s32 s33 s34 s35 s36 s37 s38 s39 s40 w)  : IvVx x l gt n nt gH nh capH i0 i1 i2 p0 p1 p2 (L.setIfInBounds 12 true) s6 s7 s8 s17 s18 s19 s20 s21 s22 s23 s24 s25 s26 s27 s28 (ptV p1) s30 s31 s32 s33 s34 s35 s36 s37 s38 s39 s40 w where
  z := by rw [Array.size_setIfInBounds]; exact H.z
  bel := H.bel
  c0 := fun h => H.c0 (by rwa [getD_set_ne _ (by decide)] at h)
  c1 := fun h => H.c1 (by rwa [getD_set_ne _ (by decide)] at h)
  c2 := fun h => H.c2 (by rwa [getD_set_ne _ (by decide)] at h)
  c3 := fun h => H.c3 (by rwa [getD_set_ne _ (by decide)] at h)
  c4 := fun h => H.c4 (by rwa [getD_set_ne _ (by decide)] at h)
  c5 := fun h => H.c5 (by rwa [getD_set_ne _ (by decide)] at h)
  c6 := fun h => H.c6 (by rwa [getD_set_ne _ (by decide)] at h)
  c7 := fun h => H.c7 (by rwa [getD_set_ne _ (by decide)] at h)
  c8 := fun h => H.c8 (by rwa [getD_set_ne _ (by decide)] at h)
  c9 := fun h => H.c9 (by rwa [getD_set_ne _ (by decide)] at h)
  c10 := fun h => H.c10 (by rwa [getD_set_ne _ (by decide)] at h)
  c11 := fun h => H.c11 (by rwa [getD_set_ne _ (by decide)] at h)
  c12 := fun _ => rfl
  c13 := fun h => H.c13 (by rwa [getD_set_ne _ (by decide)] at h)
  c14 := fun h => H.c14 (by rwa [getD_set_ne _ (by decide)] at h)
  c15 := fun h => H.c15 (by rwa [getD_set_ne _ (by decide)] at h)
  c16 := fun h => H.c16 (by rwa [getD_set_ne _ (by decide)] at h)
  c17 := fun h => H.c17 (by rwa [getD_set_ne _ (by decide)] at h)
  c18 := fun h => H.c18 (by rwa [getD_set_ne _ (by decide)] at h)
  c19 := fun h => H.c19 (by rwa [getD_set_ne _ (by decide)] at h)
  c20 := fun h => H.c20 (by rwa [getD_set_ne _ (by decide)] at h)
  c21 := fun h => H.c21 (by rwa [getD_set_ne _ (by decide)] at h)
  c22 := fun h => H.c22 (by rwa [getD_set_ne _ (by decide)] at h)
  c23 := fun h => H.c23 (by rwa [getD_set_ne _ (by decide)] at h)
  b24 := fun h => (H.b24 (by rwa [getD_set_ne _ (by decide)] at h))
  b25 := fun h => (H.b25 (by rwa [getD_set_ne _ (by decide)] at h))
  b26 := fun h => (H.b26 (by rwa [getD_set_ne _ (by decide)] at h))
  d24_25 := fun h h' => H.d24_25 (by rwa [getD_set_ne _ (by decide)] at h) (by rwa [getD_set_ne _ (by decide)] at h')
  d24_26 := fun h h' => H.d24_26 (by rwa [getD_set_ne _ (by decide)] at h) (by rwa [getD_set_ne _ (by decide)] at h')
  d25_26 := fun h h' => H.d25_26 (by rwa [getD_set_ne _ (by decide)] at h) (by rwa [getD_set_ne _ (by decide)] at h')
  f27 := fun h => by rw [getD_set_ne _ (by decide)]; exact H.f27 (by rwa [getD_set_ne _ (by decide)] at h)
  e27 := fun h => (H.e27 (by rwa [getD_set_ne _ (by decide)] at h))
  f28 := fun h => by rw [getD_set_ne _ (by decide)]; exact H.f28 (by rwa [getD_set_ne _ (by decide)] at h)
  e28 := fun h => (H.e28 (by rwa [getD_set_ne _ (by decide)] at h))
  f29 := fun h => by rw [getD_set_ne _ (by decide)]; exact H.f29 (by rwa [getD_set_ne _ (by decide)] at h)
  e29 := fun h => (H.e29 (by rwa [getD_set_ne _ (by decide)] at h))
theorem IvVx.o13 {x : World} {l : List Tm} {gt n nt gH nh capH i0 i1 i2 : Nat} {p0 p1 p2 : Pt} {L : Array Bool} {s6 s7 s8 s17 s18 s19 s20 s21 s22 s23 s24 s25 s26 s27 s28 s29 s30 s31 s32 s33 s34 s35 s36 s37 s38 s39 s40 : Value} {w : World} (H : IvVx x l gt n nt gH nh capH i0 i1 i2 p0 p1 p2 L s6 s7 s8 s17 s18 s19 s20 s21 s22 s23 s24 s25 s26 s27 s28 s29 s30 s31 s32 s33 s34 s35 s36 s37 s38 s39 s40 w) {w' : World} (hg : Below w.heap.size w w') : IvVx x l gt n nt gH nh capH i0 i1 i2 p0 p1 p2 (L.setIfInBounds 13 true) s6 s7 s8 s17 s18 s19 s20 s21 s22 s23 s24 s25 s26 s27 s28 s29 (.int .i64 (i1 : Int)) s31 s32 s33 s34 s35 s36 s37 s38 s39 s40 w' where
  z := by rw [Array.size_setIfInBounds]; exact H.z
  bel := bel2 H.bel hg
  c0 := fun h => H.c0 (by rwa [getD_set_ne _ (by decide)] at h)
  c1 := fun h => H.c1 (by rwa [getD_set_ne _ (by decide)] at h)
  c2 := fun h => H.c2 (by rwa [getD_set_ne _ (by decide)] at h)
  c3 := fun h => H.c3 (by rwa [getD_set_ne _ (by decide)] at h)
  c4 := fun h => H.c4 (by rwa [getD_set_ne _ (by decide)] at h)
  c5 := fun h => H.c5 (by rwa [getD_set_ne _ (by decide)] at h)
  c6 := fun h => H.c6 (by rwa [getD_set_ne _ (by decide)] at h)
  c7 := fun h => H.c7 (by rwa [getD_set_ne _ (by decide)] at h)
  c8 := fun h => H.c8 (by rwa [getD_set_ne _ (by decide)] at h)
  c9 := fun h => H.c9 (by rwa [getD_set_ne _ (by decide)] at h)
  c10 := fun h => H.c10 (by rwa [getD_set_ne _ (by decide)] at h)
  c11 := fun h => H.c11 (by rwa [getD_set_ne _ (by decide)] at h)
  c12 := fun h => H.c12 (by rwa [getD_set_ne _ (by decide)] at h)
  c13 := fun _ => rfl
  c14 := fun h => H.c14 (by rwa [getD_set_ne _ (by decide)] at h)
  c15 := fun h => H.c15 (by rwa [getD_set_ne _ (by decide)] at h)
  c16 := fun h => H.c16 (by rwa [getD_set_ne _ (by decide)] at h)
  c17 := fun h => H.c17 (by rwa [getD_set_ne _ (by decide)] at h)
  c18 := fun h => H.c18 (by rwa [getD_set_ne _ (by decide)] at h)
  c19 := fun h => H.c19 (by rwa [getD_set_ne _ (by decide)] at h)
  c20 := fun h => H.c20 (by rwa [getD_set_ne _ (by decide)] at h)
  c21 := fun h => H.c21 (by rwa [getD_set_ne _ (by decide)] at h)
  c22 := fun h => H.c22 (by rwa [getD_set_ne _ (by decide)] at h)
  c23 := fun h => H.c23 (by rwa [getD_set_ne _ (by decide)] at h)
  b24 := fun h => (H.b24 (by rwa [getD_set_ne _ (by decide)] at h)).imp fun _ k => k.gr hg
  b25 := fun h => (H.b25 (by rwa [getD_set_ne _ (by decide)] at h)).imp fun _ k => k.gr hg
  b26 := fun h => (H.b26 (by rwa [getD_set_ne _ (by decide)] at h)).imp fun _ k => k.gr hg
  d24_25 := fun h h' => H.d24_25 (by rwa [getD_set_ne _ (by decide)] at h) (by rwa [getD_set_ne _ (by decide)] at h')
  d24_26 := fun h h' => H.d24_26 (by rwa [getD_set_ne _ (by decide)] at h) (by rwa [getD_set_ne _ (by decide)] at h')
  d25_26 := fun h h' => H.d25_26 (by rwa [getD_set_ne _ (by decide)] at h) (by rwa [getD_set_ne _ (by decide)] at h')
  f27 := fun h => by rw [getD_set_ne _ (by decide)]; exact H.f27 (by rwa [getD_set_ne _ (by decide)] at h)
  e27 := fun h => (H.e27 (by rwa [getD_set_ne _ (by decide)] at h)).gr hg
  f28 := fun h => by rw [getD_set_ne _ (by decide)]; exact H.f28 (by rwa [getD_set_ne _ (by decide)] at h)
  e28 := fun h => (H.e28 (by rwa [getD_set_ne _ (by decide)] at h)).gr hg
  f29 := fun h => by rw [getD_set_ne _ (by decide)]; exact H.f29 (by rwa [getD_set_ne _ (by decide)] at h)
  e29 := fun h => (H.e29 (by rwa [getD_set_ne _ (by decide)] at h)).gr hg
theorem IvVx.o14 {x : World} {l : List Tm} {gt n nt gH nh capH i0 i1 i2 : Nat} {p0 p1 p2 : Pt} {L : Array Bool} {s6 s7 s8 s17 s18 s19 s20 s21 s22 s23 s24 s25 s26 s27 s28 s29 s30 s31 s32 s33 s34 s35 s36 s37 s38 s39 s40 : Value} {w : World} (H : IvVx x l gt n nt gH nh capH i0 i1 i2 p0 p1 p2 L s6 s7 s8 s17 s18 s19 s20 s21 s22 s23 s24 s25 s26 s27 s28 s29 s30 s31 s32 s33 s34 s35 s36 s37 s38 s39 s40 w)  : IvVx x l gt n nt gH nh capH i0 i1 i2 p0 p1 p2 (L.setIfInBounds 14 true) s6 s7 s8 s17 s18 s19 s20 s21 s22 s23 s24 s25 s26 s27 s28 s29 s30 (.pointer (some ⟨gt, i1 * 3, none⟩)) s32 s33 s34 s35 s36 s37 s38 s39 s40 w where
  z := by rw [Array.size_setIfInBounds]; exact H.z
  bel := H.bel
  c0 := fun h => H.c0 (by rwa [getD_set_ne _ (by decide)] at h)
  c1 := fun h => H.c1 (by rwa [getD_set_ne _ (by decide)] at h)
  c2 := fun h => H.c2 (by rwa [getD_set_ne _ (by decide)] at h)
  c3 := fun h => H.c3 (by rwa [getD_set_ne _ (by decide)] at h)
  c4 := fun h => H.c4 (by rwa [getD_set_ne _ (by decide)] at h)
  c5 := fun h => H.c5 (by rwa [getD_set_ne _ (by decide)] at h)
  c6 := fun h => H.c6 (by rwa [getD_set_ne _ (by decide)] at h)
  c7 := fun h => H.c7 (by rwa [getD_set_ne _ (by decide)] at h)
  c8 := fun h => H.c8 (by rwa [getD_set_ne _ (by decide)] at h)
  c9 := fun h => H.c9 (by rwa [getD_set_ne _ (by decide)] at h)
  c10 := fun h => H.c10 (by rwa [getD_set_ne _ (by decide)] at h)
  c11 := fun h => H.c11 (by rwa [getD_set_ne _ (by decide)] at h)
  c12 := fun h => H.c12 (by rwa [getD_set_ne _ (by decide)] at h)
  c13 := fun h => H.c13 (by rwa [getD_set_ne _ (by decide)] at h)
  c14 := fun _ => rfl
  c15 := fun h => H.c15 (by rwa [getD_set_ne _ (by decide)] at h)
  c16 := fun h => H.c16 (by rwa [getD_set_ne _ (by decide)] at h)
  c17 := fun h => H.c17 (by rwa [getD_set_ne _ (by decide)] at h)
  c18 := fun h => H.c18 (by rwa [getD_set_ne _ (by decide)] at h)
  c19 := fun h => H.c19 (by rwa [getD_set_ne _ (by decide)] at h)
  c20 := fun h => H.c20 (by rwa [getD_set_ne _ (by decide)] at h)
  c21 := fun h => H.c21 (by rwa [getD_set_ne _ (by decide)] at h)
  c22 := fun h => H.c22 (by rwa [getD_set_ne _ (by decide)] at h)
  c23 := fun h => H.c23 (by rwa [getD_set_ne _ (by decide)] at h)
  b24 := fun h => (H.b24 (by rwa [getD_set_ne _ (by decide)] at h))
  b25 := fun h => (H.b25 (by rwa [getD_set_ne _ (by decide)] at h))
  b26 := fun h => (H.b26 (by rwa [getD_set_ne _ (by decide)] at h))
  d24_25 := fun h h' => H.d24_25 (by rwa [getD_set_ne _ (by decide)] at h) (by rwa [getD_set_ne _ (by decide)] at h')
  d24_26 := fun h h' => H.d24_26 (by rwa [getD_set_ne _ (by decide)] at h) (by rwa [getD_set_ne _ (by decide)] at h')
  d25_26 := fun h h' => H.d25_26 (by rwa [getD_set_ne _ (by decide)] at h) (by rwa [getD_set_ne _ (by decide)] at h')
  f27 := fun h => by rw [getD_set_ne _ (by decide)]; exact H.f27 (by rwa [getD_set_ne _ (by decide)] at h)
  e27 := fun h => (H.e27 (by rwa [getD_set_ne _ (by decide)] at h))
  f28 := fun h => by rw [getD_set_ne _ (by decide)]; exact H.f28 (by rwa [getD_set_ne _ (by decide)] at h)
  e28 := fun h => (H.e28 (by rwa [getD_set_ne _ (by decide)] at h))
  f29 := fun h => by rw [getD_set_ne _ (by decide)]; exact H.f29 (by rwa [getD_set_ne _ (by decide)] at h)
  e29 := fun h => (H.e29 (by rwa [getD_set_ne _ (by decide)] at h))
theorem IvVx.o15 {x : World} {l : List Tm} {gt n nt gH nh capH i0 i1 i2 : Nat} {p0 p1 p2 : Pt} {L : Array Bool} {s6 s7 s8 s17 s18 s19 s20 s21 s22 s23 s24 s25 s26 s27 s28 s29 s30 s31 s32 s33 s34 s35 s36 s37 s38 s39 s40 : Value} {w : World} (H : IvVx x l gt n nt gH nh capH i0 i1 i2 p0 p1 p2 L s6 s7 s8 s17 s18 s19 s20 s21 s22 s23 s24 s25 s26 s27 s28 s29 s30 s31 s32 s33 s34 s35 s36 s37 s38 s39 s40 w)  : IvVx x l gt n nt gH nh capH i0 i1 i2 p0 p1 p2 (L.setIfInBounds 15 true) s6 s7 s8 s17 s18 s19 s20 s21 s22 s23 s24 s25 s26 s27 s28 s29 s30 s31 (tmV (td l i1)) s33 s34 s35 s36 s37 s38 s39 s40 w where
  z := by rw [Array.size_setIfInBounds]; exact H.z
  bel := H.bel
  c0 := fun h => H.c0 (by rwa [getD_set_ne _ (by decide)] at h)
  c1 := fun h => H.c1 (by rwa [getD_set_ne _ (by decide)] at h)
  c2 := fun h => H.c2 (by rwa [getD_set_ne _ (by decide)] at h)
  c3 := fun h => H.c3 (by rwa [getD_set_ne _ (by decide)] at h)
  c4 := fun h => H.c4 (by rwa [getD_set_ne _ (by decide)] at h)
  c5 := fun h => H.c5 (by rwa [getD_set_ne _ (by decide)] at h)
  c6 := fun h => H.c6 (by rwa [getD_set_ne _ (by decide)] at h)
  c7 := fun h => H.c7 (by rwa [getD_set_ne _ (by decide)] at h)
  c8 := fun h => H.c8 (by rwa [getD_set_ne _ (by decide)] at h)
  c9 := fun h => H.c9 (by rwa [getD_set_ne _ (by decide)] at h)
  c10 := fun h => H.c10 (by rwa [getD_set_ne _ (by decide)] at h)
  c11 := fun h => H.c11 (by rwa [getD_set_ne _ (by decide)] at h)
  c12 := fun h => H.c12 (by rwa [getD_set_ne _ (by decide)] at h)
  c13 := fun h => H.c13 (by rwa [getD_set_ne _ (by decide)] at h)
  c14 := fun h => H.c14 (by rwa [getD_set_ne _ (by decide)] at h)
  c15 := fun _ => rfl
  c16 := fun h => H.c16 (by rwa [getD_set_ne _ (by decide)] at h)
  c17 := fun h => H.c17 (by rwa [getD_set_ne _ (by decide)] at h)
  c18 := fun h => H.c18 (by rwa [getD_set_ne _ (by decide)] at h)
  c19 := fun h => H.c19 (by rwa [getD_set_ne _ (by decide)] at h)
  c20 := fun h => H.c20 (by rwa [getD_set_ne _ (by decide)] at h)
  c21 := fun h => H.c21 (by rwa [getD_set_ne _ (by decide)] at h)
  c22 := fun h => H.c22 (by rwa [getD_set_ne _ (by decide)] at h)
  c23 := fun h => H.c23 (by rwa [getD_set_ne _ (by decide)] at h)
  b24 := fun h => (H.b24 (by rwa [getD_set_ne _ (by decide)] at h))
  b25 := fun h => (H.b25 (by rwa [getD_set_ne _ (by decide)] at h))
  b26 := fun h => (H.b26 (by rwa [getD_set_ne _ (by decide)] at h))
  d24_25 := fun h h' => H.d24_25 (by rwa [getD_set_ne _ (by decide)] at h) (by rwa [getD_set_ne _ (by decide)] at h')
  d24_26 := fun h h' => H.d24_26 (by rwa [getD_set_ne _ (by decide)] at h) (by rwa [getD_set_ne _ (by decide)] at h')
  d25_26 := fun h h' => H.d25_26 (by rwa [getD_set_ne _ (by decide)] at h) (by rwa [getD_set_ne _ (by decide)] at h')
  f27 := fun h => by rw [getD_set_ne _ (by decide)]; exact H.f27 (by rwa [getD_set_ne _ (by decide)] at h)
  e27 := fun h => (H.e27 (by rwa [getD_set_ne _ (by decide)] at h))
  f28 := fun h => by rw [getD_set_ne _ (by decide)]; exact H.f28 (by rwa [getD_set_ne _ (by decide)] at h)
  e28 := fun h => (H.e28 (by rwa [getD_set_ne _ (by decide)] at h))
  f29 := fun h => by rw [getD_set_ne _ (by decide)]; exact H.f29 (by rwa [getD_set_ne _ (by decide)] at h)
  e29 := fun h => (H.e29 (by rwa [getD_set_ne _ (by decide)] at h))
theorem IvVx.o16 {x : World} {l : List Tm} {gt n nt gH nh capH i0 i1 i2 : Nat} {p0 p1 p2 : Pt} {L : Array Bool} {s6 s7 s8 s17 s18 s19 s20 s21 s22 s23 s24 s25 s26 s27 s28 s29 s30 s31 s32 s33 s34 s35 s36 s37 s38 s39 s40 : Value} {w : World} (H : IvVx x l gt n nt gH nh capH i0 i1 i2 p0 p1 p2 L s6 s7 s8 s17 s18 s19 s20 s21 s22 s23 s24 s25 s26 s27 s28 s29 s30 s31 s32 s33 s34 s35 s36 s37 s38 s39 s40 w)  : IvVx x l gt n nt gH nh capH i0 i1 i2 p0 p1 p2 (L.setIfInBounds 16 true) s6 s7 s8 s17 s18 s19 s20 s21 s22 s23 s24 s25 s26 s27 s28 s29 s30 s31 s32 (.slice (some ⟨gt, 0, none⟩) n nt) s34 s35 s36 s37 s38 s39 s40 w where
  z := by rw [Array.size_setIfInBounds]; exact H.z
  bel := H.bel
  c0 := fun h => H.c0 (by rwa [getD_set_ne _ (by decide)] at h)
  c1 := fun h => H.c1 (by rwa [getD_set_ne _ (by decide)] at h)
  c2 := fun h => H.c2 (by rwa [getD_set_ne _ (by decide)] at h)
  c3 := fun h => H.c3 (by rwa [getD_set_ne _ (by decide)] at h)
  c4 := fun h => H.c4 (by rwa [getD_set_ne _ (by decide)] at h)
  c5 := fun h => H.c5 (by rwa [getD_set_ne _ (by decide)] at h)
  c6 := fun h => H.c6 (by rwa [getD_set_ne _ (by decide)] at h)
  c7 := fun h => H.c7 (by rwa [getD_set_ne _ (by decide)] at h)
  c8 := fun h => H.c8 (by rwa [getD_set_ne _ (by decide)] at h)
  c9 := fun h => H.c9 (by rwa [getD_set_ne _ (by decide)] at h)
  c10 := fun h => H.c10 (by rwa [getD_set_ne _ (by decide)] at h)
  c11 := fun h => H.c11 (by rwa [getD_set_ne _ (by decide)] at h)
  c12 := fun h => H.c12 (by rwa [getD_set_ne _ (by decide)] at h)
  c13 := fun h => H.c13 (by rwa [getD_set_ne _ (by decide)] at h)
  c14 := fun h => H.c14 (by rwa [getD_set_ne _ (by decide)] at h)
  c15 := fun h => H.c15 (by rwa [getD_set_ne _ (by decide)] at h)
  c16 := fun _ => rfl
  c17 := fun h => H.c17 (by rwa [getD_set_ne _ (by decide)] at h)
  c18 := fun h => H.c18 (by rwa [getD_set_ne _ (by decide)] at h)
  c19 := fun h => H.c19 (by rwa [getD_set_ne _ (by decide)] at h)
  c20 := fun h => H.c20 (by rwa [getD_set_ne _ (by decide)] at h)
  c21 := fun h => H.c21 (by rwa [getD_set_ne _ (by decide)] at h)
  c22 := fun h => H.c22 (by rwa [getD_set_ne _ (by decide)] at h)
  c23 := fun h => H.c23 (by rwa [getD_set_ne _ (by decide)] at h)
  b24 := fun h => (H.b24 (by rwa [getD_set_ne _ (by decide)] at h))
  b25 := fun h => (H.b25 (by rwa [getD_set_ne _ (by decide)] at h))
  b26 := fun h => (H.b26 (by rwa [getD_set_ne _ (by decide)] at h))
  d24_25 := fun h h' => H.d24_25 (by rwa [getD_set_ne _ (by decide)] at h) (by rwa [getD_set_ne _ (by decide)] at h')
  d24_26 := fun h h' => H.d24_26 (by rwa [getD_set_ne _ (by decide)] at h) (by rwa [getD_set_ne _ (by decide)] at h')
  d25_26 := fun h h' => H.d25_26 (by rwa [getD_set_ne _ (by decide)] at h) (by rwa [getD_set_ne _ (by decide)] at h')
  f27 := fun h => by rw [getD_set_ne _ (by decide)]; exact H.f27 (by rwa [getD_set_ne _ (by decide)] at h)
  e27 := fun h => (H.e27 (by rwa [getD_set_ne _ (by decide)] at h))
  f28 := fun h => by rw [getD_set_ne _ (by decide)]; exact H.f28 (by rwa [getD_set_ne _ (by decide)] at h)
  e28 := fun h => (H.e28 (by rwa [getD_set_ne _ (by decide)] at h))
  f29 := fun h => by rw [getD_set_ne _ (by decide)]; exact H.f29 (by rwa [getD_set_ne _ (by decide)] at h)
  e29 := fun h => (H.e29 (by rwa [getD_set_ne _ (by decide)] at h))
theorem IvVx.o17 {x : World} {l : List Tm} {gt n nt gH nh capH i0 i1 i2 : Nat} {p0 p1 p2 : Pt} {L : Array Bool} {s6 s7 s8 s17 s18 s19 s20 s21 s22 s23 s24 s25 s26 s27 s28 s29 s30 s31 s32 s33 s34 s35 s36 s37 s38 s39 s40 : Value} {w : World} (H : IvVx x l gt n nt gH nh capH i0 i1 i2 p0 p1 p2 L s6 s7 s8 s17 s18 s19 s20 s21 s22 s23 s24 s25 s26 s27 s28 s29 s30 s31 s32 s33 s34 s35 s36 s37 s38 s39 s40 w)  : IvVx x l gt n nt gH nh capH i0 i1 i2 p0 p1 p2 (L.setIfInBounds 17 true) s6 s7 s8 s17 s18 s19 s20 s21 s22 s23 s24 s25 s26 s27 s28 s29 s30 s31 s32 s33 (.slice (some ⟨gt, 0, none⟩) n nt) s35 s36 s37 s38 s39 s40 w where
  z := by rw [Array.size_setIfInBounds]; exact H.z
  bel := H.bel
  c0 := fun h => H.c0 (by rwa [getD_set_ne _ (by decide)] at h)
  c1 := fun h => H.c1 (by rwa [getD_set_ne _ (by decide)] at h)
  c2 := fun h => H.c2 (by rwa [getD_set_ne _ (by decide)] at h)
  c3 := fun h => H.c3 (by rwa [getD_set_ne _ (by decide)] at h)
  c4 := fun h => H.c4 (by rwa [getD_set_ne _ (by decide)] at h)
  c5 := fun h => H.c5 (by rwa [getD_set_ne _ (by decide)] at h)
  c6 := fun h => H.c6 (by rwa [getD_set_ne _ (by decide)] at h)
  c7 := fun h => H.c7 (by rwa [getD_set_ne _ (by decide)] at h)
  c8 := fun h => H.c8 (by rwa [getD_set_ne _ (by decide)] at h)
  c9 := fun h => H.c9 (by rwa [getD_set_ne _ (by decide)] at h)
  c10 := fun h => H.c10 (by rwa [getD_set_ne _ (by decide)] at h)
  c11 := fun h => H.c11 (by rwa [getD_set_ne _ (by decide)] at h)
  c12 := fun h => H.c12 (by rwa [getD_set_ne _ (by decide)] at h)
  c13 := fun h => H.c13 (by rwa [getD_set_ne _ (by decide)] at h)
  c14 := fun h => H.c14 (by rwa [getD_set_ne _ (by decide)] at h)
  c15 := fun h => H.c15 (by rwa [getD_set_ne _ (by decide)] at h)
  c16 := fun h => H.c16 (by rwa [getD_set_ne _ (by decide)] at h)
  c17 := fun _ => rfl
  c18 := fun h => H.c18 (by rwa [getD_set_ne _ (by decide)] at h)
  c19 := fun h => H.c19 (by rwa [getD_set_ne _ (by decide)] at h)
  c20 := fun h => H.c20 (by rwa [getD_set_ne _ (by decide)] at h)
  c21 := fun h => H.c21 (by rwa [getD_set_ne _ (by decide)] at h)
  c22 := fun h => H.c22 (by rwa [getD_set_ne _ (by decide)] at h)
  c23 := fun h => H.c23 (by rwa [getD_set_ne _ (by decide)] at h)
  b24 := fun h => (H.b24 (by rwa [getD_set_ne _ (by decide)] at h))
  b25 := fun h => (H.b25 (by rwa [getD_set_ne _ (by decide)] at h))
  b26 := fun h => (H.b26 (by rwa [getD_set_ne _ (by decide)] at h))
  d24_25 := fun h h' => H.d24_25 (by rwa [getD_set_ne _ (by decide)] at h) (by rwa [getD_set_ne _ (by decide)] at h')
  d24_26 := fun h h' => H.d24_26 (by rwa [getD_set_ne _ (by decide)] at h) (by rwa [getD_set_ne _ (by decide)] at h')
  d25_26 := fun h h' => H.d25_26 (by rwa [getD_set_ne _ (by decide)] at h) (by rwa [getD_set_ne _ (by decide)] at h')
  f27 := fun h => by rw [getD_set_ne _ (by decide)]; exact H.f27 (by rwa [getD_set_ne _ (by decide)] at h)
  e27 := fun h => (H.e27 (by rwa [getD_set_ne _ (by decide)] at h))
  f28 := fun h => by rw [getD_set_ne _ (by decide)]; exact H.f28 (by rwa [getD_set_ne _ (by decide)] at h)
  e28 := fun h => (H.e28 (by rwa [getD_set_ne _ (by decide)] at h))
  f29 := fun h => by rw [getD_set_ne _ (by decide)]; exact H.f29 (by rwa [getD_set_ne _ (by decide)] at h)
  e29 := fun h => (H.e29 (by rwa [getD_set_ne _ (by decide)] at h))
theorem IvVx.o18 {x : World} {l : List Tm} {gt n nt gH nh capH i0 i1 i2 : Nat} {p0 p1 p2 : Pt} {L : Array Bool} {s6 s7 s8 s17 s18 s19 s20 s21 s22 s23 s24 s25 s26 s27 s28 s29 s30 s31 s32 s33 s34 s35 s36 s37 s38 s39 s40 : Value} {w : World} (H : IvVx x l gt n nt gH nh capH i0 i1 i2 p0 p1 p2 L s6 s7 s8 s17 s18 s19 s20 s21 s22 s23 s24 s25 s26 s27 s28 s29 s30 s31 s32 s33 s34 s35 s36 s37 s38 s39 s40 w)  : IvVx x l gt n nt gH nh capH i0 i1 i2 p0 p1 p2 (L.setIfInBounds 18 true) s6 s7 s8 s17 s18 s19 s20 s21 s22 s23 s24 s25 s26 s27 s28 s29 s30 s31 s32 s33 s34 (.slice (some ⟨gH, 0, none⟩) nh capH) s36 s37 s38 s39 s40 w where
  z := by rw [Array.size_setIfInBounds]; exact H.z
  bel := H.bel
  c0 := fun h => H.c0 (by rwa [getD_set_ne _ (by decide)] at h)
  c1 := fun h => H.c1 (by rwa [getD_set_ne _ (by decide)] at h)
  c2 := fun h => H.c2 (by rwa [getD_set_ne _ (by decide)] at h)
  c3 := fun h => H.c3 (by rwa [getD_set_ne _ (by decide)] at h)
  c4 := fun h => H.c4 (by rwa [getD_set_ne _ (by decide)] at h)
  c5 := fun h => H.c5 (by rwa [getD_set_ne _ (by decide)] at h)
  c6 := fun h => H.c6 (by rwa [getD_set_ne _ (by decide)] at h)
  c7 := fun h => H.c7 (by rwa [getD_set_ne _ (by decide)] at h)
  c8 := fun h => H.c8 (by rwa [getD_set_ne _ (by decide)] at h)
  c9 := fun h => H.c9 (by rwa [getD_set_ne _ (by decide)] at h)
  c10 := fun h => H.c10 (by rwa [getD_set_ne _ (by decide)] at h)
  c11 := fun h => H.c11 (by rwa [getD_set_ne _ (by decide)] at h)
  c12 := fun h => H.c12 (by rwa [getD_set_ne _ (by decide)] at h)
  c13 := fun h => H.c13 (by rwa [getD_set_ne _ (by decide)] at h)
  c14 := fun h => H.c14 (by rwa [getD_set_ne _ (by decide)] at h)
  c15 := fun h => H.c15 (by rwa [getD_set_ne _ (by decide)] at h)
  c16 := fun h => H.c16 (by rwa [getD_set_ne _ (by decide)] at h)
  c17 := fun h => H.c17 (by rwa [getD_set_ne _ (by decide)] at h)
  c18 := fun _ => rfl
  c19 := fun h => H.c19 (by rwa [getD_set_ne _ (by decide)] at h)
  c20 := fun h => H.c20 (by rwa [getD_set_ne _ (by decide)] at h)
  c21 := fun h => H.c21 (by rwa [getD_set_ne _ (by decide)] at h)
  c22 := fun h => H.c22 (by rwa [getD_set_ne _ (by decide)] at h)
  c23 := fun h => H.c23 (by rwa [getD_set_ne _ (by decide)] at h)
  b24 := fun h => (H.b24 (by rwa [getD_set_ne _ (by decide)] at h))
  b25 := fun h => (H.b25 (by rwa [getD_set_ne _ (by decide)] at h))
  b26 := fun h => (H.b26 (by rwa [getD_set_ne _ (by decide)] at h))
  d24_25 := fun h h' => H.d24_25 (by rwa [getD_set_ne _ (by decide)] at h) (by rwa [getD_set_ne _ (by decide)] at h')
  d24_26 := fun h h' => H.d24_26 (by rwa [getD_set_ne _ (by decide)] at h) (by rwa [getD_set_ne _ (by decide)] at h')
  d25_26 := fun h h' => H.d25_26 (by rwa [getD_set_ne _ (by decide)] at h) (by rwa [getD_set_ne _ (by decide)] at h')
  f27 := fun h => by rw [getD_set_ne _ (by decide)]; exact H.f27 (by rwa [getD_set_ne _ (by decide)] at h)
  e27 := fun h => (H.e27 (by rwa [getD_set_ne _ (by decide)] at h))
  f28 := fun h => by rw [getD_set_ne _ (by decide)]; exact H.f28 (by rwa [getD_set_ne _ (by decide)] at h)
  e28 := fun h => (H.e28 (by rwa [getD_set_ne _ (by decide)] at h))
  f29 := fun h => by rw [getD_set_ne _ (by decide)]; exact H.f29 (by rwa [getD_set_ne _ (by decide)] at h)
  e29 := fun h => (H.e29 (by rwa [getD_set_ne _ (by decide)] at h))
theorem IvVx.o19 {x : World} {l : List Tm} {gt n nt gH nh capH i0 i1 i2 : Nat} {p0 p1 p2 : Pt} {L : Array Bool} {s6 s7 s8 s17 s18 s19 s20 s21 s22 s23 s24 s25 s26 s27 s28 s29 s30 s31 s32 s33 s34 s35 s36 s37 s38 s39 s40 : Value} {w : World} (H : IvVx x l gt n nt gH nh capH i0 i1 i2 p0 p1 p2 L s6 s7 s8 s17 s18 s19 s20 s21 s22 s23 s24 s25 s26 s27 s28 s29 s30 s31 s32 s33 s34 s35 s36 s37 s38 s39 s40 w)  : IvVx x l gt n nt gH nh capH i0 i1 i2 p0 p1 p2 (L.setIfInBounds 19 true) s6 s7 s8 s17 s18 s19 s20 s21 s22 s23 s24 s25 s26 s27 s28 s29 s30 s31 s32 s33 s34 s35 (.pointer (some ⟨gH, 4, none⟩)) s37 s38 s39 s40 w where
  z := by rw [Array.size_setIfInBounds]; exact H.z
  bel := H.bel
  c0 := fun h => H.c0 (by rwa [getD_set_ne _ (by decide)] at h)
  c1 := fun h => H.c1 (by rwa [getD_set_ne _ (by decide)] at h)
  c2 := fun h => H.c2 (by rwa [getD_set_ne _ (by decide)] at h)
  c3 := fun h => H.c3 (by rwa [getD_set_ne _ (by decide)] at h)
  c4 := fun h => H.c4 (by rwa [getD_set_ne _ (by decide)] at h)
  c5 := fun h => H.c5 (by rwa [getD_set_ne _ (by decide)] at h)
  c6 := fun h => H.c6 (by rwa [getD_set_ne _ (by decide)] at h)
  c7 := fun h => H.c7 (by rwa [getD_set_ne _ (by decide)] at h)
  c8 := fun h => H.c8 (by rwa [getD_set_ne _ (by decide)] at h)
  c9 := fun h => H.c9 (by rwa [getD_set_ne _ (by decide)] at h)
  c10 := fun h => H.c10 (by rwa [getD_set_ne _ (by decide)] at h)
  c11 := fun h => H.c11 (by rwa [getD_set_ne _ (by decide)] at h)
  c12 := fun h => H.c12 (by rwa [getD_set_ne _ (by decide)] at h)
  c13 := fun h => H.c13 (by rwa [getD_set_ne _ (by decide)] at h)
  c14 := fun h => H.c14 (by rwa [getD_set_ne _ (by decide)] at h)
  c15 := fun h => H.c15 (by rwa [getD_set_ne _ (by decide)] at h)
  c16 := fun h => H.c16 (by rwa [getD_set_ne _ (by decide)] at h)
  c17 := fun h => H.c17 (by rwa [getD_set_ne _ (by decide)] at h)
  c18 := fun h => H.c18 (by rwa [getD_set_ne _ (by decide)] at h)
  c19 := fun _ => rfl
  c20 := fun h => H.c20 (by rwa [getD_set_ne _ (by decide)] at h)
  c21 := fun h => H.c21 (by rwa [getD_set_ne _ (by decide)] at h)
  c22 := fun h => H.c22 (by rwa [getD_set_ne _ (by decide)] at h)
  c23 := fun h => H.c23 (by rwa [getD_set_ne _ (by decide)] at h)
  b24 := fun h => (H.b24 (by rwa [getD_set_ne _ (by decide)] at h))
  b25 := fun h => (H.b25 (by rwa [getD_set_ne _ (by decide)] at h))
  b26 := fun h => (H.b26 (by rwa [getD_set_ne _ (by decide)] at h))
  d24_25 := fun h h' => H.d24_25 (by rwa [getD_set_ne _ (by decide)] at h) (by rwa [getD_set_ne _ (by decide)] at h')
  d24_26 := fun h h' => H.d24_26 (by rwa [getD_set_ne _ (by decide)] at h) (by rwa [getD_set_ne _ (by decide)] at h')
  d25_26 := fun h h' => H.d25_26 (by rwa [getD_set_ne _ (by decide)] at h) (by rwa [getD_set_ne _ (by decide)] at h')
  f27 := fun h => by rw [getD_set_ne _ (by decide)]; exact H.f27 (by rwa [getD_set_ne _ (by decide)] at h)
  e27 := fun h => (H.e27 (by rwa [getD_set_ne _ (by decide)] at h))
  f28 := fun h => by rw [getD_set_ne _ (by decide)]; exact H.f28 (by rwa [getD_set_ne _ (by decide)] at h)
  e28 := fun h => (H.e28 (by rwa [getD_set_ne _ (by decide)] at h))
  f29 := fun h => by rw [getD_set_ne _ (by decide)]; exact H.f29 (by rwa [getD_set_ne _ (by decide)] at h)
  e29 := fun h => (H.e29 (by rwa [getD_set_ne _ (by decide)] at h))
theorem IvVx.o20 {x : World} {l : List Tm} {gt n nt gH nh capH i0 i1 i2 : Nat} {p0 p1 p2 : Pt} {L : Array Bool} {s6 s7 s8 s17 s18 s19 s20 s21 s22 s23 s24 s25 s26 s27 s28 s29 s30 s31 s32 s33 s34 s35 s36 s37 s38 s39 s40 : Value} {w : World} (H : IvVx x l gt n nt gH nh capH i0 i1 i2 p0 p1 p2 L s6 s7 s8 s17 s18 s19 s20 s21 s22 s23 s24 s25 s26 s27 s28 s29 s30 s31 s32 s33 s34 s35 s36 s37 s38 s39 s40 w)  : IvVx x l gt n nt gH nh capH i0 i1 i2 p0 p1 p2 (L.setIfInBounds 20 true) s6 s7 s8 s17 s18 s19 s20 s21 s22 s23 s24 s25 s26 s27 s28 s29 s30 s31 s32 s33 s34 s35 s36 (ptV p2) s38 s39 s40 w where
  z := by rw [Array.size_setIfInBounds]; exact H.z
  bel := H.bel
  c0 := fun h => H.c0 (by rwa [getD_set_ne _ (by decide)] at h)
  c1 := fun h => H.c1 (by rwa [getD_set_ne _ (by decide)] at h)
  c2 := fun h => H.c2 (by rwa [getD_set_ne _ (by decide)] at h)
  c3 := fun h => H.c3 (by rwa [getD_set_ne _ (by decide)] at h)
  c4 := fun h => H.c4 (by rwa [getD_set_ne _ (by decide)] at h)
  c5 := fun h => H.c5 (by rwa [getD_set_ne _ (by decide)] at h)
  c6 := fun h => H.c6 (by rwa [getD_set_ne _ (by decide)] at h)
  c7 := fun h => H.c7 (by rwa [getD_set_ne _ (by decide)] at h)
  c8 := fun h => H.c8 (by rwa [getD_set_ne _ (by decide)] at h)
  c9 := fun h => H.c9 (by rwa [getD_set_ne _ (by decide)] at h)
  c10 := fun h => H.c10 (by rwa [getD_set_ne _ (by decide)] at h)
  c11 := fun h => H.c11 (by rwa [getD_set_ne _ (by decide)] at h)
  c12 := fun h => H.c12 (by rwa [getD_set_ne _ (by decide)] at h)
  c13 := fun h => H.c13 (by rwa [getD_set_ne _ (by decide)] at h)
  c14 := fun h => H.c14 (by rwa [getD_set_ne _ (by decide)] at h)
  c15 := fun h => H.c15 (by rwa [getD_set_ne _ (by decide)] at h)
  c16 := fun h => H.c16 (by rwa [getD_set_ne _ (by decide)] at h)
  c17 := fun h => H.c17 (by rwa [getD_set_ne _ (by decide)] at h)
  c18 := fun h => H.c18 (by rwa [getD_set_ne _ (by decide)] at h)
  c19 := fun h => H.c19 (by rwa [getD_set_ne _ (by decide)] at h)
  c20 := fun _ => rfl
  c21 := fun h => H.c21 (by rwa [getD_set_ne _ (by decide)] at h)
  c22 := fun h => H.c22 (by rwa [getD_set_ne _ (by decide)] at h)
  c23 := fun h => H.c23 (by rwa [getD_set_ne _ (by decide)] at h)
  b24 := fun h => (H.b24 (by rwa [getD_set_ne _ (by decide)] at h))
  b25 := fun h => (H.b25 (by rwa [getD_set_ne _ (by decide)] at h))
  b26 := fun h => (H.b26 (by rwa [getD_set_ne _ (by decide)] at h))
  d24_25 := fun h h' => H.d24_25 (by rwa [getD_set_ne _ (by decide)] at h) (by rwa [getD_set_ne _ (by decide)] at h')
  d24_26 := fun h h' => H.d24_26 (by rwa [getD_set_ne _ (by decide)] at h) (by rwa [getD_set_ne _ (by decide)] at h')
  d25_26 := fun h h' => H.d25_26 (by rwa [getD_set_ne _ (by decide)] at h) (by rwa [getD_set_ne _ (by decide)] at h')
  f27 := fun h => by rw [getD_set_ne _ (by decide)]; exact H.f27 (by rwa [getD_set_ne _ (by decide)] at h)
  e27 := fun h => (H.e27 (by rwa [getD_set_ne _ (by decide)] at h))
  f28 := fun h => by rw [getD_set_ne _ (by decide)]; exact H.f28 (by rwa [getD_set_ne _ (by decide)] at h)
  e28 := fun h => (H.e28 (by rwa [getD_set_ne _ (by decide)] at h))
  f29 := fun h => by rw [getD_set_ne _ (by decide)]; exact H.f29 (by rwa [getD_set_ne _ (by decide)] at h)
  e29 := fun h => (H.e29 (by rwa [getD_set_ne _ (by decide)] at h))
theorem IvVx.o21 {x : World} {l : List Tm} {gt n nt gH nh capH i0 i1 i2 : Nat} {p0 p1 p2 : Pt} {L : Array Bool} {s6 s7 s8 s17 s18 s19 s20 s21 s22 s23 s24 s25 s26 s27 s28 s29 s30 s31 s32 s33 s34 s35 s36 s37 s38 s39 s40 : Value} {w : World} (H : IvVx x l gt n nt gH nh capH i0 i1 i2 p0 p1 p2 L s6 s7 s8 s17 s18 s19 s20 s21 s22 s23 s24 s25 s26 s27 s28 s29 s30 s31 s32 s33 s34 s35 s36 s37 s38 s39 s40 w) {w' : World} (hg : Below w.heap.size w w') : IvVx x l gt n nt gH nh capH i0 i1 i2 p0 p1 p2 (L.setIfInBounds 21 true) s6 s7 s8 s17 s18 s19 s20 s21 s22 s23 s24 s25 s26 s27 s28 s29 s30 s31 s32 s33 s34 s35 s36 s37 (.int .i64 (i2 : Int)) s39 s40 w' where
  z := by rw [Array.size_setIfInBounds]; exact H.z
  bel := bel2 H.bel hg
  c0 := fun h => H.c0 (by rwa [getD_set_ne _ (by decide)] at h)
  c1 := fun h => H.c1 (by rwa [getD_set_ne _ (by decide)] at h)
  c2 := fun h => H.c2 (by rwa [getD_set_ne _ (by decide)] at h)
  c3 := fun h => H.c3 (by rwa [getD_set_ne _ (by decide)] at h)
  c4 := fun h => H.c4 (by rwa [getD_set_ne _ (by decide)] at h)
  c5 := fun h => H.c5 (by rwa [getD_set_ne _ (by decide)] at h)
  c6 := fun h => H.c6 (by rwa [getD_set_ne _ (by decide)] at h)
  c7 := fun h => H.c7 (by rwa [getD_set_ne _ (by decide)] at h)
  c8 := fun h => H.c8 (by rwa [getD_set_ne _ (by decide)] at h)
  c9 := fun h => H.c9 (by rwa [getD_set_ne _ (by decide)] at h)
  c10 := fun h => H.c10 (by rwa [getD_set_ne _ (by decide)] at h)
  c11 := fun h => H.c11 (by rwa [getD_set_ne _ (by decide)] at h)
  c12 := fun h => H.c12 (by rwa [getD_set_ne _ (by decide)] at h)
  c13 := fun h => H.c13 (by rwa [getD_set_ne _ (by decide)] at h)
  c14 := fun h => H.c14 (by rwa [getD_set_ne _ (by decide)] at h)
  c15 := fun h => H.c15 (by rwa [getD_set_ne _ (by decide)] at h)
  c16 := fun h => H.c16 (by rwa [getD_set_ne _ (by decide)] at h)
  c17 := fun h => H.c17 (by rwa [getD_set_ne _ (by decide)] at h)
  c18 := fun h => H.c18 (by rwa [getD_set_ne _ (by decide)] at h)
  c19 := fun h => H.c19 (by rwa [getD_set_ne _ (by decide)] at h)
  c20 := fun h => H.c20 (by rwa [getD_set_ne _ (by decide)] at h)
  c21 := fun _ => rfl
  c22 := fun h => H.c22 (by rwa [getD_set_ne _ (by decide)] at h)
  c23 := fun h => H.c23 (by rwa [getD_set_ne _ (by decide)] at h)
  b24 := fun h => (H.b24 (by rwa [getD_set_ne _ (by decide)] at h)).imp fun _ k => k.gr hg
  b25 := fun h => (H.b25 (by rwa [getD_set_ne _ (by decide)] at h)).imp fun _ k => k.gr hg
  b26 := fun h => (H.b26 (by rwa [getD_set_ne _ (by decide)] at h)).imp fun _ k => k.gr hg
  d24_25 := fun h h' => H.d24_25 (by rwa [getD_set_ne _ (by decide)] at h) (by rwa [getD_set_ne _ (by decide)] at h')
  d24_26 := fun h h' => H.d24_26 (by rwa [getD_set_ne _ (by decide)] at h) (by rwa [getD_set_ne _ (by decide)] at h')
  d25_26 := fun h h' => H.d25_26 (by rwa [getD_set_ne _ (by decide)] at h) (by rwa [getD_set_ne _ (by decide)] at h')
  f27 := fun h => by rw [getD_set_ne _ (by decide)]; exact H.f27 (by rwa [getD_set_ne _ (by decide)] at h)
  e27 := fun h => (H.e27 (by rwa [getD_set_ne _ (by decide)] at h)).gr hg
  f28 := fun h => by rw [getD_set_ne _ (by decide)]; exact H.f28 (by rwa [getD_set_ne _ (by decide)] at h)
  e28 := fun h => (H.e28 (by rwa [getD_set_ne _ (by decide)] at h)).gr hg
  f29 := fun h => by rw [getD_set_ne _ (by decide)]; exact H.f29 (by rwa [getD_set_ne _ (by decide)] at h)
  e29 := fun h => (H.e29 (by rwa [getD_set_ne _ (by decide)] at h)).gr hg
theorem IvVx.o22 {x : World} {l : List Tm} {gt n nt gH nh capH i0 i1 i2 : Nat} {p0 p1 p2 : Pt} {L : Array Bool} {s6 s7 s8 s17 s18 s19 s20 s21 s22 s23 s24 s25 s26 s27 s28 s29 s30 s31 s32 s33 s34 s35 s36 s37 s38 s39 s40 : Value} {w : World} (H : IvVx x l gt n nt gH nh capH i0 i1 i2 p0 p1 p2 L s6 s7 s8 s17 s18 s19 s20 s21 s22 s23 s24 s25 s26 s27 s28 s29 s30 s31 s32 s33 s34 s35 s36 s37 s38 s39 s40 w)  : IvVx x l gt n nt gH nh capH i0 i1 i2 p0 p1 p2 (L.setIfInBounds 22 true) s6 s7 s8 s17 s18 s19 s20 s21 s22 s23 s24 s25 s26 s27 s28 s29 s30 s31 s32 s33 s34 s35 s36 s37 s38 (.pointer (some ⟨gt, i2 * 3, none⟩)) s40 w where
  z := by rw [Array.size_setIfInBounds]; exact H.z
  bel := H.bel
  c0 := fun h => H.c0 (by rwa [getD_set_ne _ (by decide)] at h)
  c1 := fun h => H.c1 (by rwa [getD_set_ne _ (by decide)] at h)
  c2 := fun h => H.c2 (by rwa [getD_set_ne _ (by decide)] at h)
  c3 := fun h => H.c3 (by rwa [getD_set_ne _ (by decide)] at h)
  c4 := fun h => H.c4 (by rwa [getD_set_ne _ (by decide)] at h)
  c5 := fun h => H.c5 (by rwa [getD_set_ne _ (by decide)] at h)
  c6 := fun h => H.c6 (by rwa [getD_set_ne _ (by decide)] at h)
  c7 := fun h => H.c7 (by rwa [getD_set_ne _ (by decide)] at h)
  c8 := fun h => H.c8 (by rwa [getD_set_ne _ (by decide)] at h)
  c9 := fun h => H.c9 (by rwa [getD_set_ne _ (by decide)] at h)
  c10 := fun h => H.c10 (by rwa [getD_set_ne _ (by decide)] at h)
  c11 := fun h => H.c11 (by rwa [getD_set_ne _ (by decide)] at h)
  c12 := fun h => H.c12 (by rwa [getD_set_ne _ (by decide)] at h)
  c13 := fun h => H.c13 (by rwa [getD_set_ne _ (by decide)] at h)
  c14 := fun h => H.c14 (by rwa [getD_set_ne _ (by decide)] at h)
  c15 := fun h => H.c15 (by rwa [getD_set_ne _ (by decide)] at h)
  c16 := fun h => H.c16 (by rwa [getD_set_ne _ (by decide)] at h)
  c17 := fun h => H.c17 (by rwa [getD_set_ne _ (by decide)] at h)
  c18 := fun h => H.c18 (by rwa [getD_set_ne _ (by decide)] at h)
  c19 := fun h => H.c19 (by rwa [getD_set_ne _ (by decide)] at h)
  c20 := fun h => H.c20 (by rwa [getD_set_ne _ (by decide)] at h)
  c21 := fun h => H.c21 (by rwa [getD_set_ne _ (by decide)] at h)
  c22 := fun _ => rfl
  c23 := fun h => H.c23 (by rwa [getD_set_ne _ (by decide)] at h)
  b24 := fun h => (H.b24 (by rwa [getD_set_ne _ (by decide)] at h))
  b25 := fun h => (H.b25 (by rwa [getD_set_ne _ (by decide)] at h))
  b26 := fun h => (H.b26 (by rwa [getD_set_ne _ (by decide)] at h))
  d24_25 := fun h h' => H.d24_25 (by rwa [getD_set_ne _ (by decide)] at h) (by rwa [getD_set_ne _ (by decide)] at h')
  d24_26 := fun h h' => H.d24_26 (by rwa [getD_set_ne _ (by decide)] at h) (by rwa [getD_set_ne _ (by decide)] at h')
  d25_26 := fun h h' => H.d25_26 (by rwa [getD_set_ne _ (by decide)] at h) (by rwa [getD_set_ne _ (by decide)] at h')
  f27 := fun h => by rw [getD_set_ne _ (by decide)]; exact H.f27 (by rwa [getD_set_ne _ (by decide)] at h)
  e27 := fun h => (H.e27 (by rwa [getD_set_ne _ (by decide)] at h))
  f28 := fun h => by rw [getD_set_ne _ (by decide)]; exact H.f28 (by rwa [getD_set_ne _ (by decide)] at h)
  e28 := fun h => (H.e28 (by rwa [getD_set_ne _ (by decide)] at h))
  f29 := fun h => by rw [getD_set_ne _ (by decide)]; exact H.f29 (by rwa [getD_set_ne _ (by decide)] at h)
  e29 := fun h => (H.e29 (by rwa [getD_set_ne _ (by decide)] at h))
theorem IvVx.o23 {x : World} {l : List Tm} {gt n nt gH nh capH i0 i1 i2 : Nat} {p0 p1 p2 : Pt} {L : Array Bool} {s6 s7 s8 s17 s18 s19 s20 s21 s22 s23 s24 s25 s26 s27 s28 s29 s30 s31 s32 s33 s34 s35 s36 s37 s38 s39 s40 : Value} {w : World} (H : IvVx x l gt n nt gH nh capH i0 i1 i2 p0 p1 p2 L s6 s7 s8 s17 s18 s19 s20 s21 s22 s23 s24 s25 s26 s27 s28 s29 s30 s31 s32 s33 s34 s35 s36 s37 s38 s39 s40 w)  : IvVx x l gt n nt gH nh capH i0 i1 i2 p0 p1 p2 (L.setIfInBounds 23 true) s6 s7 s8 s17 s18 s19 s20 s21 s22 s23 s24 s25 s26 s27 s28 s29 s30 s31 s32 s33 s34 s35 s36 s37 s38 s39 (tmV (td l i2)) w where
  z := by rw [Array.size_setIfInBounds]; exact H.z
  bel := H.bel
  c0 := fun h => H.c0 (by rwa [getD_set_ne _ (by decide)] at h)
  c1 := fun h => H.c1 (by rwa [getD_set_ne _ (by decide)] at h)
  c2 := fun h => H.c2 (by rwa [getD_set_ne _ (by decide)] at h)
  c3 := fun h => H.c3 (by rwa [getD_set_ne _ (by decide)] at h)
  c4 := fun h => H.c4 (by rwa [getD_set_ne _ (by decide)] at h)
  c5 := fun h => H.c5 (by rwa [getD_set_ne _ (by decide)] at h)
  c6 := fun h => H.c6 (by rwa [getD_set_ne _ (by decide)] at h)
  c7 := fun h => H.c7 (by rwa [getD_set_ne _ (by decide)] at h)
  c8 := fun h => H.c8 (by rwa [getD_set_ne _ (by decide)] at h)
  c9 := fun h => H.c9 (by rwa [getD_set_ne _ (by decide)] at h)
  c10 := fun h => H.c10 (by rwa [getD_set_ne _ (by decide)] at h)
  c11 := fun h => H.c11 (by rwa [getD_set_ne _ (by decide)] at h)
  c12 := fun h => H.c12 (by rwa [getD_set_ne _ (by decide)] at h)
  c13 := fun h => H.c13 (by rwa [getD_set_ne _ (by decide)] at h)
  c14 := fun h => H.c14 (by rwa [getD_set_ne _ (by decide)] at h)
  c15 := fun h => H.c15 (by rwa [getD_set_ne _ (by decide)] at h)
  c16 := fun h => H.c16 (by rwa [getD_set_ne _ (by decide)] at h)
  c17 := fun h => H.c17 (by rwa [getD_set_ne _ (by decide)] at h)
  c18 := fun h => H.c18 (by rwa [getD_set_ne _ (by decide)] at h)
  c19 := fun h => H.c19 (by rwa [getD_set_ne _ (by decide)] at h)
  c20 := fun h => H.c20 (by rwa [getD_set_ne _ (by decide)] at h)
  c21 := fun h => H.c21 (by rwa [getD_set_ne _ (by decide)] at h)
  c22 := fun h => H.c22 (by rwa [getD_set_ne _ (by decide)] at h)
  c23 := fun _ => rfl
  b24 := fun h => (H.b24 (by rwa [getD_set_ne _ (by decide)] at h))
  b25 := fun h => (H.b25 (by rwa [getD_set_ne _ (by decide)] at h))
  b26 := fun h => (H.b26 (by rwa [getD_set_ne _ (by decide)] at h))
  d24_25 := fun h h' => H.d24_25 (by rwa [getD_set_ne _ (by decide)] at h) (by rwa [getD_set_ne _ (by decide)] at h')
  d24_26 := fun h h' => H.d24_26 (by rwa [getD_set_ne _ (by decide)] at h) (by rwa [getD_set_ne _ (by decide)] at h')
  d25_26 := fun h h' => H.d25_26 (by rwa [getD_set_ne _ (by decide)] at h) (by rwa [getD_set_ne _ (by decide)] at h')
  f27 := fun h => by rw [getD_set_ne _ (by decide)]; exact H.f27 (by rwa [getD_set_ne _ (by decide)] at h)
  e27 := fun h => (H.e27 (by rwa [getD_set_ne _ (by decide)] at h))
  f28 := fun h => by rw [getD_set_ne _ (by decide)]; exact H.f28 (by rwa [getD_set_ne _ (by decide)] at h)
  e28 := fun h => (H.e28 (by rwa [getD_set_ne _ (by decide)] at h))
  f29 := fun h => by rw [getD_set_ne _ (by decide)]; exact H.f29 (by rwa [getD_set_ne _ (by decide)] at h)
  e29 := fun h => (H.e29 (by rwa [getD_set_ne _ (by decide)] at h))
theorem IvVx.o24 {x : World} {l : List Tm} {gt n nt gH nh capH i0 i1 i2 : Nat} {p0 p1 p2 : Pt} {L : Array Bool} {s6 s7 s8 s17 s18 s19 s20 s21 s22 s23 s24 s25 s26 s27 s28 s29 s30 s31 s32 s33 s34 s35 s36 s37 s38 s39 s40 : Value} {w : World} (H : IvVx x l gt n nt gH nh capH i0 i1 i2 p0 p1 p2 L s6 s7 s8 s17 s18 s19 s20 s21 s22 s23 s24 s25 s26 s27 s28 s29 s30 s31 s32 s33 s34 s35 s36 s37 s38 s39 s40 w) (hN : L.getD 24 true = false) : IvVx x l gt n nt gH nh capH i0 i1 i2 p0 p1 p2 (L.setIfInBounds 24 true) (.pointer (some ⟨w.heap.size, 0, none⟩)) s7 s8 s17 s18 s19 s20 s21 s22 s23 s24 s25 s26 s27 s28 s29 s30 s31 s32 s33 s34 s35 s36 s37 s38 s39 s40 (w.alloc (.cells #[.int .i64 0, .int .i64 0, .int .i64 0] 53)) where
  z := by rw [Array.size_setIfInBounds]; exact H.z
  bel := belA1 H.bel _
  c0 := fun h => H.c0 (by rwa [getD_set_ne _ (by decide)] at h)
  c1 := fun h => H.c1 (by rwa [getD_set_ne _ (by decide)] at h)
  c2 := fun h => H.c2 (by rwa [getD_set_ne _ (by decide)] at h)
  c3 := fun h => H.c3 (by rwa [getD_set_ne _ (by decide)] at h)
  c4 := fun h => H.c4 (by rwa [getD_set_ne _ (by decide)] at h)
  c5 := fun h => H.c5 (by rwa [getD_set_ne _ (by decide)] at h)
  c6 := fun h => H.c6 (by rwa [getD_set_ne _ (by decide)] at h)
  c7 := fun h => H.c7 (by rwa [getD_set_ne _ (by decide)] at h)
  c8 := fun h => H.c8 (by rwa [getD_set_ne _ (by decide)] at h)
  c9 := fun h => H.c9 (by rwa [getD_set_ne _ (by decide)] at h)
  c10 := fun h => H.c10 (by rwa [getD_set_ne _ (by decide)] at h)
  c11 := fun h => H.c11 (by rwa [getD_set_ne _ (by decide)] at h)
  c12 := fun h => H.c12 (by rwa [getD_set_ne _ (by decide)] at h)
  c13 := fun h => H.c13 (by rwa [getD_set_ne _ (by decide)] at h)
  c14 := fun h => H.c14 (by rwa [getD_set_ne _ (by decide)] at h)
  c15 := fun h => H.c15 (by rwa [getD_set_ne _ (by decide)] at h)
  c16 := fun h => H.c16 (by rwa [getD_set_ne _ (by decide)] at h)
  c17 := fun h => H.c17 (by rwa [getD_set_ne _ (by decide)] at h)
  c18 := fun h => H.c18 (by rwa [getD_set_ne _ (by decide)] at h)
  c19 := fun h => H.c19 (by rwa [getD_set_ne _ (by decide)] at h)
  c20 := fun h => H.c20 (by rwa [getD_set_ne _ (by decide)] at h)
  c21 := fun h => H.c21 (by rwa [getD_set_ne _ (by decide)] at h)
  c22 := fun h => H.c22 (by rwa [getD_set_ne _ (by decide)] at h)
  c23 := fun h => H.c23 (by rwa [getD_set_ne _ (by decide)] at h)
  b24 := fun _ => ⟨_, Bt.new H.bel.size⟩
  b25 := fun h => (H.b25 (by rwa [getD_set_ne _ (by decide)] at h)).imp fun _ k => k.gr ((Below.refl _ _).alloc (Nat.le_refl _) _)
  b26 := fun h => (H.b26 (by rwa [getD_set_ne _ (by decide)] at h)).imp fun _ k => k.gr ((Below.refl _ _).alloc (Nat.le_refl _) _)
  d24_25 := fun h h' e => by obtain ⟨p, k⟩ := H.b25 (by rwa [getD_set_ne _ (by decide)] at h'); exact k.ne_new e.symm
  d24_26 := fun h h' e => by obtain ⟨p, k⟩ := H.b26 (by rwa [getD_set_ne _ (by decide)] at h'); exact k.ne_new e.symm
  d25_26 := fun h h' => H.d25_26 (by rwa [getD_set_ne _ (by decide)] at h) (by rwa [getD_set_ne _ (by decide)] at h')
  f27 := fun _ => getD_set_same H.z (by decide)
  e27 := fun h => (notl hN (H.f27 (by rwa [getD_set_ne _ (by decide)] at h))).elim
  f28 := fun h => by rw [getD_set_ne _ (by decide)]; exact H.f28 (by rwa [getD_set_ne _ (by decide)] at h)
  e28 := fun h => (H.e28 (by rwa [getD_set_ne _ (by decide)] at h)).gr ((Below.refl _ _).alloc (Nat.le_refl _) _)
  f29 := fun h => by rw [getD_set_ne _ (by decide)]; exact H.f29 (by rwa [getD_set_ne _ (by decide)] at h)
  e29 := fun h => (H.e29 (by rwa [getD_set_ne _ (by decide)] at h)).gr ((Below.refl _ _).alloc (Nat.le_refl _) _)
theorem IvVx.o25 {x : World} {l : List Tm} {gt n nt gH nh capH i0 i1 i2 : Nat} {p0 p1 p2 : Pt} {L : Array Bool} {s6 s7 s8 s17 s18 s19 s20 s21 s22 s23 s24 s25 s26 s27 s28 s29 s30 s31 s32 s33 s34 s35 s36 s37 s38 s39 s40 : Value} {w : World} (H : IvVx x l gt n nt gH nh capH i0 i1 i2 p0 p1 p2 L s6 s7 s8 s17 s18 s19 s20 s21 s22 s23 s24 s25 s26 s27 s28 s29 s30 s31 s32 s33 s34 s35 s36 s37 s38 s39 s40 w) (hN : L.getD 25 true = false) : IvVx x l gt n nt gH nh capH i0 i1 i2 p0 p1 p2 (L.setIfInBounds 25 true) s6 (.pointer (some ⟨w.heap.size, 0, none⟩)) s8 s17 s18 s19 s20 s21 s22 s23 s24 s25 s26 s27 s28 s29 s30 s31 s32 s33 s34 s35 s36 s37 s38 s39 s40 (w.alloc (.cells #[.int .i64 0, .int .i64 0, .int .i64 0] 53)) where
  z := by rw [Array.size_setIfInBounds]; exact H.z
  bel := belA1 H.bel _
  c0 := fun h => H.c0 (by rwa [getD_set_ne _ (by decide)] at h)
  c1 := fun h => H.c1 (by rwa [getD_set_ne _ (by decide)] at h)
  c2 := fun h => H.c2 (by rwa [getD_set_ne _ (by decide)] at h)
  c3 := fun h => H.c3 (by rwa [getD_set_ne _ (by decide)] at h)
  c4 := fun h => H.c4 (by rwa [getD_set_ne _ (by decide)] at h)
  c5 := fun h => H.c5 (by rwa [getD_set_ne _ (by decide)] at h)
  c6 := fun h => H.c6 (by rwa [getD_set_ne _ (by decide)] at h)
  c7 := fun h => H.c7 (by rwa [getD_set_ne _ (by decide)] at h)
  c8 := fun h => H.c8 (by rwa [getD_set_ne _ (by decide)] at h)
  c9 := fun h => H.c9 (by rwa [getD_set_ne _ (by decide)] at h)
  c10 := fun h => H.c10 (by rwa [getD_set_ne _ (by decide)] at h)
  c11 := fun h => H.c11 (by rwa [getD_set_ne _ (by decide)] at h)
  c12 := fun h => H.c12 (by rwa [getD_set_ne _ (by decide)] at h)
  c13 := fun h => H.c13 (by rwa [getD_set_ne _ (by decide)] at h)
  c14 := fun h => H.c14 (by rwa [getD_set_ne _ (by decide)] at h)
  c15 := fun h => H.c15 (by rwa [getD_set_ne _ (by decide)] at h)
  c16 := fun h => H.c16 (by rwa [getD_set_ne _ (by decide)] at h)
  c17 := fun h => H.c17 (by rwa [getD_set_ne _ (by decide)] at h)
  c18 := fun h => H.c18 (by rwa [getD_set_ne _ (by decide)] at h)
  c19 := fun h => H.c19 (by rwa [getD_set_ne _ (by decide)] at h)
  c20 := fun h => H.c20 (by rwa [getD_set_ne _ (by decide)] at h)
  c21 := fun h => H.c21 (by rwa [getD_set_ne _ (by decide)] at h)
  c22 := fun h => H.c22 (by rwa [getD_set_ne _ (by decide)] at h)
  c23 := fun h => H.c23 (by rwa [getD_set_ne _ (by decide)] at h)
  b24 := fun h => (H.b24 (by rwa [getD_set_ne _ (by decide)] at h)).imp fun _ k => k.gr ((Below.refl _ _).alloc (Nat.le_refl _) _)
  b25 := fun _ => ⟨_, Bt.new H.bel.size⟩
  b26 := fun h => (H.b26 (by rwa [getD_set_ne _ (by decide)] at h)).imp fun _ k => k.gr ((Below.refl _ _).alloc (Nat.le_refl _) _)
  d24_25 := fun h h' e => by obtain ⟨p, k⟩ := H.b24 (by rwa [getD_set_ne _ (by decide)] at h); exact k.ne_new e
  d24_26 := fun h h' => H.d24_26 (by rwa [getD_set_ne _ (by decide)] at h) (by rwa [getD_set_ne _ (by decide)] at h')
  d25_26 := fun h h' e => by obtain ⟨p, k⟩ := H.b26 (by rwa [getD_set_ne _ (by decide)] at h'); exact k.ne_new e.symm
  f27 := fun h => by rw [getD_set_ne _ (by decide)]; exact H.f27 (by rwa [getD_set_ne _ (by decide)] at h)
  e27 := fun h => (H.e27 (by rwa [getD_set_ne _ (by decide)] at h)).gr ((Below.refl _ _).alloc (Nat.le_refl _) _)
  f28 := fun _ => getD_set_same H.z (by decide)
  e28 := fun h => (notl hN (H.f28 (by rwa [getD_set_ne _ (by decide)] at h))).elim
  f29 := fun h => by rw [getD_set_ne _ (by decide)]; exact H.f29 (by rwa [getD_set_ne _ (by decide)] at h)
  e29 := fun h => (H.e29 (by rwa [getD_set_ne _ (by decide)] at h)).gr ((Below.refl _ _).alloc (Nat.le_refl _) _)
theorem IvVx.o26 {x : World} {l : List Tm} {gt n nt gH nh capH i0 i1 i2 : Nat} {p0 p1 p2 : Pt} {L : Array Bool} {s6 s7 s8 s17 s18 s19 s20 s21 s22 s23 s24 s25 s26 s27 s28 s29 s30 s31 s32 s33 s34 s35 s36 s37 s38 s39 s40 : Value} {w : World} (H : IvVx x l gt n nt gH nh capH i0 i1 i2 p0 p1 p2 L s6 s7 s8 s17 s18 s19 s20 s21 s22 s23 s24 s25 s26 s27 s28 s29 s30 s31 s32 s33 s34 s35 s36 s37 s38 s39 s40 w) (hN : L.getD 26 true = false) : IvVx x l gt n nt gH nh capH i0 i1 i2 p0 p1 p2 (L.setIfInBounds 26 true) s6 s7 (.pointer (some ⟨w.heap.size, 0, none⟩)) s17 s18 s19 s20 s21 s22 s23 s24 s25 s26 s27 s28 s29 s30 s31 s32 s33 s34 s35 s36 s37 s38 s39 s40 (w.alloc (.cells #[.int .i64 0, .int .i64 0, .int .i64 0] 53)) where
  z := by rw [Array.size_setIfInBounds]; exact H.z
  bel := belA1 H.bel _
  c0 := fun h => H.c0 (by rwa [getD_set_ne _ (by decide)] at h)
  c1 := fun h => H.c1 (by rwa [getD_set_ne _ (by decide)] at h)
  c2 := fun h => H.c2 (by rwa [getD_set_ne _ (by decide)] at h)
  c3 := fun h => H.c3 (by rwa [getD_set_ne _ (by decide)] at h)
  c4 := fun h => H.c4 (by rwa [getD_set_ne _ (by decide)] at h)
  c5 := fun h => H.c5 (by rwa [getD_set_ne _ (by decide)] at h)
  c6 := fun h => H.c6 (by rwa [getD_set_ne _ (by decide)] at h)
  c7 := fun h => H.c7 (by rwa [getD_set_ne _ (by decide)] at h)
  c8 := fun h => H.c8 (by rwa [getD_set_ne _ (by decide)] at h)
  c9 := fun h => H.c9 (by rwa [getD_set_ne _ (by decide)] at h)
  c10 := fun h => H.c10 (by rwa [getD_set_ne _ (by decide)] at h)
  c11 := fun h => H.c11 (by rwa [getD_set_ne _ (by decide)] at h)
  c12 := fun h => H.c12 (by rwa [getD_set_ne _ (by decide)] at h)
  c13 := fun h => H.c13 (by rwa [getD_set_ne _ (by decide)] at h)
  c14 := fun h => H.c14 (by rwa [getD_set_ne _ (by decide)] at h)
  c15 := fun h => H.c15 (by rwa [getD_set_ne _ (by decide)] at h)
  c16 := fun h => H.c16 (by rwa [getD_set_ne _ (by decide)] at h)
  c17 := fun h => H.c17 (by rwa [getD_set_ne _ (by decide)] at h)
  c18 := fun h => H.c18 (by rwa [getD_set_ne _ (by decide)] at h)
  c19 := fun h => H.c19 (by rwa [getD_set_ne _ (by decide)] at h)
  c20 := fun h => H.c20 (by rwa [getD_set_ne _ (by decide)] at h)
  c21 := fun h => H.c21 (by rwa [getD_set_ne _ (by decide)] at h)
  c22 := fun h => H.c22 (by rwa [getD_set_ne _ (by decide)] at h)
  c23 := fun h => H.c23 (by rwa [getD_set_ne _ (by decide)] at h)
  b24 := fun h => (H.b24 (by rwa [getD_set_ne _ (by decide)] at h)).imp fun _ k => k.gr ((Below.refl _ _).alloc (Nat.le_refl _) _)
  b25 := fun h => (H.b25 (by rwa [getD_set_ne _ (by decide)] at h)).imp fun _ k => k.gr ((Below.refl _ _).alloc (Nat.le_refl _) _)
  b26 := fun _ => ⟨_, Bt.new H.bel.size⟩
  d24_25 := fun h h' => H.d24_25 (by rwa [getD_set_ne _ (by decide)] at h) (by rwa [getD_set_ne _ (by decide)] at h')
  d24_26 := fun h h' e => by obtain ⟨p, k⟩ := H.b24 (by rwa [getD_set_ne _ (by decide)] at h); exact k.ne_new e
  d25_26 := fun h h' e => by obtain ⟨p, k⟩ := H.b25 (by rwa [getD_set_ne _ (by decide)] at h); exact k.ne_new e
  f27 := fun h => by rw [getD_set_ne _ (by decide)]; exact H.f27 (by rwa [getD_set_ne _ (by decide)] at h)
  e27 := fun h => (H.e27 (by rwa [getD_set_ne _ (by decide)] at h)).gr ((Below.refl _ _).alloc (Nat.le_refl _) _)
  f28 := fun h => by rw [getD_set_ne _ (by decide)]; exact H.f28 (by rwa [getD_set_ne _ (by decide)] at h)
  e28 := fun h => (H.e28 (by rwa [getD_set_ne _ (by decide)] at h)).gr ((Below.refl _ _).alloc (Nat.le_refl _) _)
  f29 := fun _ => getD_set_same H.z (by decide)
  e29 := fun h => (notl hN (H.f29 (by rwa [getD_set_ne _ (by decide)] at h))).elim
theorem IvVx.o27 {x : World} {l : List Tm} {gt n nt gH nh capH i0 i1 i2 : Nat} {p0 p1 p2 : Pt} {L : Array Bool} {s6 s7 s8 s17 s18 s19 s20 s21 s22 s23 s24 s25 s26 s27 s28 s29 s30 s31 s32 s33 s34 s35 s36 s37 s38 s39 s40 : Value} {w : World} (H : IvVx x l gt n nt gH nh capH i0 i1 i2 p0 p1 p2 L s6 s7 s8 s17 s18 s19 s20 s21 s22 s23 s24 s25 s26 s27 s28 s29 s30 s31 s32 s33 s34 s35 s36 s37 s38 s39 s40 w) (l24 : L.getD 24 false = true) (l25 : L.getD 25 false = true) (l26 : L.getD 26 false = true) {g : Nat} (hs : s6 = .pointer (some ⟨g, 0, none⟩)) {p : _} (hb : Bt x.heap.size w s6 p) (hge : x.heap.size ≤ g) : IvVx x l gt n nt gH nh capH i0 i1 i2 p0 p1 p2 (L.setIfInBounds 27 true) s6 s7 s8 s17 s18 s19 s20 s21 s22 s23 s24 s25 s26 s27 s28 s29 s30 s31 s32 s33 s34 s35 s36 s37 s38 s39 s40 (((w.setCell ⟨g, 0, none⟩ (.int .i64 (td l i0).1)).setCell ⟨g, 1, none⟩ (.int .i64 (td l i0).2.1)).setCell ⟨g, 2, none⟩ (.int .i64 (td l i0).2.2)) where
  z := by rw [Array.size_setIfInBounds]; exact H.z
  bel := belS (belS (belS (H.bel) hge _ _) hge _ _) hge _ _
  c0 := fun h => H.c0 (by rwa [getD_set_ne _ (by decide)] at h)
  c1 := fun h => H.c1 (by rwa [getD_set_ne _ (by decide)] at h)
  c2 := fun h => H.c2 (by rwa [getD_set_ne _ (by decide)] at h)
  c3 := fun h => H.c3 (by rwa [getD_set_ne _ (by decide)] at h)
  c4 := fun h => H.c4 (by rwa [getD_set_ne _ (by decide)] at h)
  c5 := fun h => H.c5 (by rwa [getD_set_ne _ (by decide)] at h)
  c6 := fun h => H.c6 (by rwa [getD_set_ne _ (by decide)] at h)
  c7 := fun h => H.c7 (by rwa [getD_set_ne _ (by decide)] at h)
  c8 := fun h => H.c8 (by rwa [getD_set_ne _ (by decide)] at h)
  c9 := fun h => H.c9 (by rwa [getD_set_ne _ (by decide)] at h)
  c10 := fun h => H.c10 (by rwa [getD_set_ne _ (by decide)] at h)
  c11 := fun h => H.c11 (by rwa [getD_set_ne _ (by decide)] at h)
  c12 := fun h => H.c12 (by rwa [getD_set_ne _ (by decide)] at h)
  c13 := fun h => H.c13 (by rwa [getD_set_ne _ (by decide)] at h)
  c14 := fun h => H.c14 (by rwa [getD_set_ne _ (by decide)] at h)
  c15 := fun h => H.c15 (by rwa [getD_set_ne _ (by decide)] at h)
  c16 := fun h => H.c16 (by rwa [getD_set_ne _ (by decide)] at h)
  c17 := fun h => H.c17 (by rwa [getD_set_ne _ (by decide)] at h)
  c18 := fun h => H.c18 (by rwa [getD_set_ne _ (by decide)] at h)
  c19 := fun h => H.c19 (by rwa [getD_set_ne _ (by decide)] at h)
  c20 := fun h => H.c20 (by rwa [getD_set_ne _ (by decide)] at h)
  c21 := fun h => H.c21 (by rwa [getD_set_ne _ (by decide)] at h)
  c22 := fun h => H.c22 (by rwa [getD_set_ne _ (by decide)] at h)
  c23 := fun h => H.c23 (by rwa [getD_set_ne _ (by decide)] at h)
  b24 := fun _ => ⟨_, by rw [hs]; exact Bt.put (hs ▸ hb) (td l i0)⟩
  b25 := fun h => (H.b25 (by rwa [getD_set_ne _ (by decide)] at h)).imp fun _ k => k.off (fun e => H.d24_25 l24 l25 (by rw [hs, e]))
  b26 := fun h => (H.b26 (by rwa [getD_set_ne _ (by decide)] at h)).imp fun _ k => k.off (fun e => H.d24_26 l24 l26 (by rw [hs, e]))
  d24_25 := fun h h' => H.d24_25 (by rwa [getD_set_ne _ (by decide)] at h) (by rwa [getD_set_ne _ (by decide)] at h')
  d24_26 := fun h h' => H.d24_26 (by rwa [getD_set_ne _ (by decide)] at h) (by rwa [getD_set_ne _ (by decide)] at h')
  d25_26 := fun h h' => H.d25_26 (by rwa [getD_set_ne _ (by decide)] at h) (by rwa [getD_set_ne _ (by decide)] at h')
  f27 := fun _ => by rw [getD_set_ne _ (by decide)]; exact l24
  e27 := fun _ => by rw [hs]; exact Bt.put (hs ▸ hb) _
  f28 := fun h => by rw [getD_set_ne _ (by decide)]; exact H.f28 (by rwa [getD_set_ne _ (by decide)] at h)
  e28 := fun h => (H.e28 (by rwa [getD_set_ne _ (by decide)] at h)).off (fun e => H.d24_25 l24 l25 (by rw [hs, e]))
  f29 := fun h => by rw [getD_set_ne _ (by decide)]; exact H.f29 (by rwa [getD_set_ne _ (by decide)] at h)
  e29 := fun h => (H.e29 (by rwa [getD_set_ne _ (by decide)] at h)).off (fun e => H.d24_26 l24 l26 (by rw [hs, e]))
theorem IvVx.o28 {x : World} {l : List Tm} {gt n nt gH nh capH i0 i1 i2 : Nat} {p0 p1 p2 : Pt} {L : Array Bool} {s6 s7 s8 s17 s18 s19 s20 s21 s22 s23 s24 s25 s26 s27 s28 s29 s30 s31 s32 s33 s34 s35 s36 s37 s38 s39 s40 : Value} {w : World} (H : IvVx x l gt n nt gH nh capH i0 i1 i2 p0 p1 p2 L s6 s7 s8 s17 s18 s19 s20 s21 s22 s23 s24 s25 s26 s27 s28 s29 s30 s31 s32 s33 s34 s35 s36 s37 s38 s39 s40 w) (l24 : L.getD 24 false = true) (l25 : L.getD 25 false = true) (l26 : L.getD 26 false = true) {g : Nat} (hs : s7 = .pointer (some ⟨g, 0, none⟩)) {p : _} (hb : Bt x.heap.size w s7 p) (hge : x.heap.size ≤ g) : IvVx x l gt n nt gH nh capH i0 i1 i2 p0 p1 p2 (L.setIfInBounds 28 true) s6 s7 s8 s17 s18 s19 s20 s21 s22 s23 s24 s25 s26 s27 s28 s29 s30 s31 s32 s33 s34 s35 s36 s37 s38 s39 s40 (((w.setCell ⟨g, 0, none⟩ (.int .i64 (td l i1).1)).setCell ⟨g, 1, none⟩ (.int .i64 (td l i1).2.1)).setCell ⟨g, 2, none⟩ (.int .i64 (td l i1).2.2)) where
  z := by rw [Array.size_setIfInBounds]; exact H.z
  bel := belS (belS (belS (H.bel) hge _ _) hge _ _) hge _ _
  c0 := fun h => H.c0 (by rwa [getD_set_ne _ (by decide)] at h)
  c1 := fun h => H.c1 (by rwa [getD_set_ne _ (by decide)] at h)
  c2 := fun h => H.c2 (by rwa [getD_set_ne _ (by decide)] at h)
  c3 := fun h => H.c3 (by rwa [getD_set_ne _ (by decide)] at h)
  c4 := fun h => H.c4 (by rwa [getD_set_ne _ (by decide)] at h)
  c5 := fun h => H.c5 (by rwa [getD_set_ne _ (by decide)] at h)
  c6 := fun h => H.c6 (by rwa [getD_set_ne _ (by decide)] at h)
  c7 := fun h => H.c7 (by rwa [getD_set_ne _ (by decide)] at h)
  c8 := fun h => H.c8 (by rwa [getD_set_ne _ (by decide)] at h)
  c9 := fun h => H.c9 (by rwa [getD_set_ne _ (by decide)] at h)
  c10 := fun h => H.c10 (by rwa [getD_set_ne _ (by decide)] at h)
  c11 := fun h => H.c11 (by rwa [getD_set_ne _ (by decide)] at h)
  c12 := fun h => H.c12 (by rwa [getD_set_ne _ (by decide)] at h)
  c13 := fun h => H.c13 (by rwa [getD_set_ne _ (by decide)] at h)
  c14 := fun h => H.c14 (by rwa [getD_set_ne _ (by decide)] at h)
  c15 := fun h => H.c15 (by rwa [getD_set_ne _ (by decide)] at h)
  c16 := fun h => H.c16 (by rwa [getD_set_ne _ (by decide)] at h)
  c17 := fun h => H.c17 (by rwa [getD_set_ne _ (by decide)] at h)
  c18 := fun h => H.c18 (by rwa [getD_set_ne _ (by decide)] at h)
  c19 := fun h => H.c19 (by rwa [getD_set_ne _ (by decide)] at h)
  c20 := fun h => H.c20 (by rwa [getD_set_ne _ (by decide)] at h)
  c21 := fun h => H.c21 (by rwa [getD_set_ne _ (by decide)] at h)
  c22 := fun h => H.c22 (by rwa [getD_set_ne _ (by decide)] at h)
  c23 := fun h => H.c23 (by rwa [getD_set_ne _ (by decide)] at h)
  b24 := fun h => (H.b24 (by rwa [getD_set_ne _ (by decide)] at h)).imp fun _ k => k.off (fun e => H.d24_25 l24 l25 (by rw [hs, e]))
  b25 := fun _ => ⟨_, by rw [hs]; exact Bt.put (hs ▸ hb) (td l i1)⟩
  b26 := fun h => (H.b26 (by rwa [getD_set_ne _ (by decide)] at h)).imp fun _ k => k.off (fun e => H.d25_26 l25 l26 (by rw [hs, e]))
  d24_25 := fun h h' => H.d24_25 (by rwa [getD_set_ne _ (by decide)] at h) (by rwa [getD_set_ne _ (by decide)] at h')
  d24_26 := fun h h' => H.d24_26 (by rwa [getD_set_ne _ (by decide)] at h) (by rwa [getD_set_ne _ (by decide)] at h')
  d25_26 := fun h h' => H.d25_26 (by rwa [getD_set_ne _ (by decide)] at h) (by rwa [getD_set_ne _ (by decide)] at h')
  f27 := fun h => by rw [getD_set_ne _ (by decide)]; exact H.f27 (by rwa [getD_set_ne _ (by decide)] at h)
  e27 := fun h => (H.e27 (by rwa [getD_set_ne _ (by decide)] at h)).off (fun e => H.d24_25 l24 l25 (by rw [hs, e]))
  f28 := fun _ => by rw [getD_set_ne _ (by decide)]; exact l25
  e28 := fun _ => by rw [hs]; exact Bt.put (hs ▸ hb) _
  f29 := fun h => by rw [getD_set_ne _ (by decide)]; exact H.f29 (by rwa [getD_set_ne _ (by decide)] at h)
  e29 := fun h => (H.e29 (by rwa [getD_set_ne _ (by decide)] at h)).off (fun e => H.d25_26 l25 l26 (by rw [hs, e]))
theorem IvVx.o29 {x : World} {l : List Tm} {gt n nt gH nh capH i0 i1 i2 : Nat} {p0 p1 p2 : Pt} {L : Array Bool} {s6 s7 s8 s17 s18 s19 s20 s21 s22 s23 s24 s25 s26 s27 s28 s29 s30 s31 s32 s33 s34 s35 s36 s37 s38 s39 s40 : Value} {w : World} (H : IvVx x l gt n nt gH nh capH i0 i1 i2 p0 p1 p2 L s6 s7 s8 s17 s18 s19 s20 s21 s22 s23 s24 s25 s26 s27 s28 s29 s30 s31 s32 s33 s34 s35 s36 s37 s38 s39 s40 w) (l24 : L.getD 24 false = true) (l25 : L.getD 25 false = true) (l26 : L.getD 26 false = true) {g : Nat} (hs : s8 = .pointer (some ⟨g, 0, none⟩)) {p : _} (hb : Bt x.heap.size w s8 p) (hge : x.heap.size ≤ g) : IvVx x l gt n nt gH nh capH i0 i1 i2 p0 p1 p2 (L.setIfInBounds 29 true) s6 s7 s8 s17 s18 s19 s20 s21 s22 s23 s24 s25 s26 s27 s28 s29 s30 s31 s32 s33 s34 s35 s36 s37 s38 s39 s40 (((w.setCell ⟨g, 0, none⟩ (.int .i64 (td l i2).1)).setCell ⟨g, 1, none⟩ (.int .i64 (td l i2).2.1)).setCell ⟨g, 2, none⟩ (.int .i64 (td l i2).2.2)) where
  z := by rw [Array.size_setIfInBounds]; exact H.z
  bel := belS (belS (belS (H.bel) hge _ _) hge _ _) hge _ _
  c0 := fun h => H.c0 (by rwa [getD_set_ne _ (by decide)] at h)
  c1 := fun h => H.c1 (by rwa [getD_set_ne _ (by decide)] at h)
  c2 := fun h => H.c2 (by rwa [getD_set_ne _ (by decide)] at h)
  c3 := fun h => H.c3 (by rwa [getD_set_ne _ (by decide)] at h)
  c4 := fun h => H.c4 (by rwa [getD_set_ne _ (by decide)] at h)
  c5 := fun h => H.c5 (by rwa [getD_set_ne _ (by decide)] at h)
  c6 := fun h => H.c6 (by rwa [getD_set_ne _ (by decide)] at h)
  c7 := fun h => H.c7 (by rwa [getD_set_ne _ (by decide)] at h)
  c8 := fun h => H.c8 (by rwa [getD_set_ne _ (by decide)] at h)
  c9 := fun h => H.c9 (by rwa [getD_set_ne _ (by decide)] at h)
  c10 := fun h => H.c10 (by rwa [getD_set_ne _ (by decide)] at h)
  c11 := fun h => H.c11 (by rwa [getD_set_ne _ (by decide)] at h)
  c12 := fun h => H.c12 (by rwa [getD_set_ne _ (by decide)] at h)
  c13 := fun h => H.c13 (by rwa [getD_set_ne _ (by decide)] at h)
  c14 := fun h => H.c14 (by rwa [getD_set_ne _ (by decide)] at h)
  c15 := fun h => H.c15 (by rwa [getD_set_ne _ (by decide)] at h)
  c16 := fun h => H.c16 (by rwa [getD_set_ne _ (by decide)] at h)
  c17 := fun h => H.c17 (by rwa [getD_set_ne _ (by decide)] at h)
  c18 := fun h => H.c18 (by rwa [getD_set_ne _ (by decide)] at h)
  c19 := fun h => H.c19 (by rwa [getD_set_ne _ (by decide)] at h)
  c20 := fun h => H.c20 (by rwa [getD_set_ne _ (by decide)] at h)
  c21 := fun h => H.c21 (by rwa [getD_set_ne _ (by decide)] at h)
  c22 := fun h => H.c22 (by rwa [getD_set_ne _ (by decide)] at h)
  c23 := fun h => H.c23 (by rwa [getD_set_ne _ (by decide)] at h)
  b24 := fun h => (H.b24 (by rwa [getD_set_ne _ (by decide)] at h)).imp fun _ k => k.off (fun e => H.d24_26 l24 l26 (by rw [hs, e]))
  b25 := fun h => (H.b25 (by rwa [getD_set_ne _ (by decide)] at h)).imp fun _ k => k.off (fun e => H.d25_26 l25 l26 (by rw [hs, e]))
  b26 := fun _ => ⟨_, by rw [hs]; exact Bt.put (hs ▸ hb) (td l i2)⟩
  d24_25 := fun h h' => H.d24_25 (by rwa [getD_set_ne _ (by decide)] at h) (by rwa [getD_set_ne _ (by decide)] at h')
  d24_26 := fun h h' => H.d24_26 (by rwa [getD_set_ne _ (by decide)] at h) (by rwa [getD_set_ne _ (by decide)] at h')
  d25_26 := fun h h' => H.d25_26 (by rwa [getD_set_ne _ (by decide)] at h) (by rwa [getD_set_ne _ (by decide)] at h')
  f27 := fun h => by rw [getD_set_ne _ (by decide)]; exact H.f27 (by rwa [getD_set_ne _ (by decide)] at h)
  e27 := fun h => (H.e27 (by rwa [getD_set_ne _ (by decide)] at h)).off (fun e => H.d24_26 l24 l26 (by rw [hs, e]))
  f28 := fun h => by rw [getD_set_ne _ (by decide)]; exact H.f28 (by rwa [getD_set_ne _ (by decide)] at h)
  e28 := fun h => (H.e28 (by rwa [getD_set_ne _ (by decide)] at h)).off (fun e => H.d25_26 l25 l26 (by rw [hs, e]))
  f29 := fun _ => by rw [getD_set_ne _ (by decide)]; exact l26
  e29 := fun _ => by rw [hs]; exact Bt.put (hs ▸ hb) _

set_option maxHeartbeats 4000000 in
set_option maxRecDepth 100000 in
theorem cuVertex_any (w : World) (B B' : Nat) (v c : Value) (l : List Tm) (x : List Int) (h : TmS w B v l) (hc : IS w B' c x) (hl : plB l = true) (hx : x ∈ ceL l) :
    Calls Tryz.prog 55 #[v, c] w fun e w' => e = .returned (vxV l x) ∧ Below w.heap.size w w' := by
  have HL := Lib.hid hl
  have HX := Lib.hid hx
  have h3 := hc_3 hx
  have h12 := (plB_le hl).2
  have bA : Below w.heap.size w (w.alloc (.cells #[.int .i64 0, .int .i64 0, .int .i64 0, .int .i64 0] 76)) := (Below.refl _ _).alloc (Nat.le_refl _) _
  have HQ0 := Lib.hid (Q4.new w 0 0 0 0)
  have HBA := Lib.hid bA
  have HPG := Lib.hid (cePolygon_any (w.alloc (.cells #[.int .i64 0, .int .i64 0, .int .i64 0, .int .i64 0] 76)) B B' v c l x (FS.below h bA) (hc.below bA) hl (ceL_bd hx).1 (Nat.le_trans (ceL_bd hx).2.2 h12))
  have H0 := Lib.hid h
  clear bA hc
  go_enter Tryz.func55, Tryz.ntmps55
  go_wp2_with fail
  refine HPG.out.mono ?_
  rintro e w3 ⟨r, rfl, hr, b3⟩
  rw [show hulL (cptL l x) = hcL l x from rfl] at hr
  have HB3 := Lib.hid (bel2 HBA.out b3)
  have HQ3 := Lib.hid (HQ0.out.below b3)
  have HTM := Lib.hid (FS.below H0.out HB3.out)
  have HCN := Lib.hid (fun n (hn : n < 3) => cnO_at hx hn)
  have HPM := Lib.hid (fun n (hn : n < 3) => hc_pts hx (pd_mem (show n < (hcL l x).length by omega)))
  have HSM := Lib.hid (fun n (hn : n < 3) => show Sm 1000 (pd (hcL l x) n) by rw [← (cnO_at hx hn).1]; exact ptO_sm (plB_at hl (cnO_at hx hn).2))
  obtain ⟨AH, capH, rfl, -, hpH⟩ := PtS.parts hr
  obtain ⟨gH, hgH, u0⟩ := hpH 0 (by omega)
  obtain ⟨gH', hgH', u1⟩ := hpH 1 (by omega)
  subst hgH
  cases hgH'
  obtain ⟨gH', hgH', u2⟩ := hpH 2 (by omega)
  cases hgH'
  obtain ⟨At, nt, rfl, -, htp⟩ := TmS.parts HTM.out
  obtain ⟨gt, hg1, y0⟩ := htp _ (HCN.out 0 (by omega)).2
  obtain ⟨gt', hg2, y1⟩ := htp _ (HCN.out 1 (by omega)).2
  subst hg1
  cases hg2
  obtain ⟨gt', hg2, y2⟩ := htp _ (HCN.out 2 (by omega)).2
  cases hg2
  have HF := Lib.hid (fun n (hn : n < 3) W (hW : Below w3.heap.size w3 W) => ceFind_any W B _ l (pd (hcL l x) n) (FS.below HTM.out hW) (HPM.out n hn) h12)
  obtain ⟨p0, hp0⟩ : ∃ p, p = pd (hcL l x) 0 := ⟨_, rfl⟩
  obtain ⟨p1, hp1⟩ : ∃ p, p = pd (hcL l x) 1 := ⟨_, rfl⟩
  obtain ⟨p2, hp2⟩ : ∃ p, p = pd (hcL l x) 2 := ⟨_, rfl⟩
  obtain ⟨i0, hi0⟩ : ∃ i, i = fnI l (pd (hcL l x) 0) := ⟨_, rfl⟩
  obtain ⟨i1, hi1⟩ : ∃ i, i = fnI l (pd (hcL l x) 1) := ⟨_, rfl⟩
  obtain ⟨i2, hi2⟩ : ∃ i, i = fnI l (pd (hcL l x) 2) := ⟨_, rfl⟩
  have HC0 := Lib.hid (fun W hW => HF.out 0 (by omega) W hW)
  have HC1 := Lib.hid (fun W hW => HF.out 1 (by omega) W hW)
  have HC2 := Lib.hid (fun W hW => HF.out 2 (by omega) W hW)
  have k0 := (HCN.out 0 (by omega)).2
  have k1 := (HCN.out 1 (by omega)).2
  have k2 := (HCN.out 2 (by omega)).2
  rw [← hi0] at k0 y0 HC0
  rw [← hi1] at k1 y1 HC1
  rw [← hi2] at k2 y2 HC2
  rw [← hp0] at HC0 u0
  rw [← hp1] at HC1 u1
  rw [← hp2] at HC2 u2
  have HNV := Lib.hid (show nvO l x = noT (td l i0) (td l i1) (td l i2) by rw [hi0, hi1, hi2]; rfl)
  have HDT := Lib.hid (show (nvO l x).2.2 = trn p0 p1 p2 by
    unfold nvO; rw [noT_tu]; unfold tuT
    rw [(HCN.out 0 (by omega)).1, (HCN.out 1 (by omega)).1, (HCN.out 2 (by omega)).1, hp0, hp1, hp2])
  have HSP := Lib.hid (show Sm 1000 p0 ∧ Sm 1000 p1 ∧ Sm 1000 p2 by rw [hp0, hp1, hp2]; exact ⟨HSM.out 0 (by omega), HSM.out 1 (by omega), HSM.out 2 (by omega)⟩)
  have HV := Lib.hid (And.intro (plB_at hl k0) (And.intro (plB_at hl k1) (plB_at hl k2)))
  have HU := Lib.hid (And.intro u0 (And.intro u1 u2))
  have HY := Lib.hid (And.intro y0 (And.intro y1 y2))
  obtain ⟨n, hn⟩ : ∃ n, n = l.length := ⟨_, rfl⟩
  obtain ⟨nh, hnh⟩ : ∃ nh, nh = (hcL l x).length := ⟨_, rfl⟩
  rw [← hn] at k0 k1 k2 HC0 HC1 HC2 ⊢
  rw [← hnh] at h3 ⊢
  have l0 : (i0 : Int) < (n : Int) := by omega
  have l1 : (i1 : Int) < (n : Int) := by omega
  have l2 : (i2 : Int) < (n : Int) := by omega
  have m0 : (0 : Int) < (nh : Int) := by omega
  have m1 : (1 : Int) < (nh : Int) := by omega
  have m2 : (2 : Int) < (nh : Int) := by omega
  have m0' : 0 < nh := by omega
  have m1' : 1 < nh := by omega
  have m2' : 2 < nh := by omega
  clear h hl hx b3 hr HPG hpH htp u0 u1 u2 y0 y1 y2 HF hp0 hp1 hp2 hi0 hi1 hi2 HCN HPM HSM HTM HQ0 HBA H0 hn hnh
  go_upto_region 2 with fail
  refine wp_region_inv (by kernel_rfl) (fun L a' w' => ∃ s6 s7 s8 s17 s18 s19 s20 s21 s22 s23 s24 s25 s26 s27 s28 s29 s30 s31 s32 s33 s34 s35 s36 s37 s38 s39 s40, a' = actVx (Value.slice (some { block := gt, off := 0 }) n nt) c undef undef (Value.pointer (some { block := w.heap.size, off := 0 })) (Value.slice (some { block := gH, off := 0 }) nh capH) undef undef undef undef undef (Value.slice (some { block := gt, off := 0 }) n nt) c (Value.slice (some { block := gH, off := 0 }) nh capH) undef undef undef undef undef undef undef undef undef undef undef undef undef undef undef undef undef undef undef undef undef undef undef undef undef undef undef undef undef undef undef undef undef undef undef undef undef undef undef undef undef undef undef undef undef undef undef undef undef undef undef undef undef undef undef undef undef undef undef undef undef undef undef undef undef undef undef undef undef s6 s7 s8 s17 s18 s19 s20 s21 s22 s23 s24 s25 s26 s27 s28 s29 s30 s31 s32 s33 s34 s35 s36 s37 s38 s39 s40 ∧ IvVx w3 l gt n nt gH nh capH i0 i1 i2 p0 p1 p2 L s6 s7 s8 s17 s18 s19 s20 s21 s22 s23 s24 s25 s26 s27 s28 s29 s30 s31 s32 s33 s34 s35 s36 s37 s38 s39 s40 w') ?_ ?_ ?_
  · exact ⟨_, _, _, _, _, _, _, _, _, _, _, _, _, _, _, _, _, _, _, _, _, _, _, _, _, _, _, rfl, IvVx.start w3 l gt n nt gH nh capH i0 i1 i2 p0 p1 p2 _ _ _ _ _ _ _ _ _ _ _ _ _ _ _ _ _ _ _ _ _ _ _ _ _ _ _ ⟩
  · rintro L a' w' i ⟨s6, s7, s8, s17, s18, s19, s20, s21, s22, s23, s24, s25, s26, s27, s28, s29, s30, s31, s32, s33, s34, s35, s36, s37, s38, s39, s40, rfl, H⟩ hi
    obtain ⟨hL, o, ho, haf⟩ := mem_ready.1 hi
    have hiN : i < 30 := (Array.getElem?_eq_some_iff.1 ho).1
    clear hi
    obtain ⟨⟨z0, z1⟩, ⟨z2, z3⟩, z4, z5⟩ := And.intro (X2.below HU.out.1 H.bel) (And.intro (X2.below HU.out.2.1 H.bel) (X2.below HU.out.2.2 H.bel))
    obtain ⟨⟨a0, a1, a2⟩, ⟨b0, b1, b2⟩, c0, c1, c2⟩ := And.intro (X3.below HY.out.1 H.bel) (And.intro (X3.below HY.out.2.1 H.bel) (X3.below HY.out.2.2 H.bel))
    have hcs : i = 0 ∨ i = 1 ∨ i = 2 ∨ i = 3 ∨ i = 4 ∨ i = 5 ∨ i = 6 ∨ i = 7 ∨ i = 8 ∨ i = 9 ∨ i = 10 ∨ i = 11 ∨ i = 12 ∨ i = 13 ∨ i = 14 ∨ i = 15 ∨ i = 16 ∨ i = 17 ∨ i = 18 ∨ i = 19 ∨ i = 20 ∨ i = 21 ∨ i = 22 ∨ i = 23 ∨ i = 24 ∨ i = 25 ∨ i = 26 ∨ i = 27 ∨ i = 28 ∨ i = 29 := by omega
    rcases hcs with rfl | rfl | rfl | rfl | rfl | rfl | rfl | rfl | rfl | rfl | rfl | rfl | rfl | rfl | rfl | rfl | rfl | rfl | rfl | rfl | rfl | rfl | rfl | rfl | rfl | rfl | rfl | rfl | rfl | rfl
    · cases ho
      refine wpOp_step rfl fun K' hK => ?_
      rw [if_pos (by rfl)]
      go_simp
      exact hK _ _ ⟨_, _, _, _, _, _, _, _, _, _, _, _, _, _, _, _, _, _, _, _, _, _, _, _, _, _, _, rfl, H.o0⟩
    · cases ho
      refine wpOp_step rfl fun K' hK => ?_
      rw [if_pos (by rfl)]
      go_simp
      exact hK _ _ ⟨_, _, _, _, _, _, _, _, _, _, _, _, _, _, _, _, _, _, _, _, _, _, _, _, _, _, _, rfl, H.o1⟩
    · cases ho
      refine wpOp_step rfl fun K' hK => ?_
      rw [if_pos (by rfl)]
      go_simp
      exact hK _ _ ⟨_, _, _, _, _, _, _, _, _, _, _, _, _, _, _, _, _, _, _, _, _, _, _, _, _, _, _, rfl, H.o2⟩
    · cases ho
      have e2 := H.c2 (haf_of haf 2 (by kernel_rfl))
      subst e2
      refine wpOp_step rfl fun K' hK => ?_
      rw [if_pos (by rfl)]
      go_simp
      exact hK _ _ ⟨_, _, _, _, _, _, _, _, _, _, _, _, _, _, _, _, _, _, _, _, _, _, _, _, _, _, _, rfl, H.o3⟩
    · cases ho
      have e3 := H.c3 (haf_of haf 3 (by kernel_rfl))
      subst e3
      refine wpOp_step rfl fun K' hK => ?_
      rw [if_pos (by rfl)]
      go_simp
      exact hK _ _ ⟨_, _, _, _, _, _, _, _, _, _, _, _, _, _, _, _, _, _, _, _, _, _, _, _, _, _, _, rfl, H.o4⟩
    · cases ho
      have e1 := H.c1 (haf_of haf 1 (by kernel_rfl))
      subst e1
      have e4 := H.c4 (haf_of haf 4 (by kernel_rfl))
      subst e4
      refine wpOp_step rfl fun K' hK => ?_
      rw [if_pos (by rfl)]
      go_simp
      refine (HC0.out _ H.bel).mono ?_
      rintro e w1 ⟨rfl, hg⟩
      exact hK _ _ ⟨_, _, _, _, _, _, _, _, _, _, _, _, _, _, _, _, _, _, _, _, _, _, _, _, _, _, _, rfl, H.o5 hg.below⟩
    · cases ho
      have e0 := H.c0 (haf_of haf 0 (by kernel_rfl))
      subst e0
      have e5 := H.c5 (haf_of haf 5 (by kernel_rfl))
      subst e5
      refine wpOp_step rfl fun K' hK => ?_
      rw [if_pos (by rfl)]
      go_simp
      exact hK _ _ ⟨_, _, _, _, _, _, _, _, _, _, _, _, _, _, _, _, _, _, _, _, _, _, _, _, _, _, _, rfl, H.o6⟩
    · cases ho
      have e6 := H.c6 (haf_of haf 6 (by kernel_rfl))
      subst e6
      refine wpOp_step rfl fun K' hK => ?_
      rw [if_pos (by rfl)]
      go_simp
      exact hK _ _ ⟨_, _, _, _, _, _, _, _, _, _, _, _, _, _, _, _, _, _, _, _, _, _, _, _, _, _, _, rfl, H.o7⟩
    · cases ho
      refine wpOp_step rfl fun K' hK => ?_
      rw [if_pos (by rfl)]
      go_simp
      exact hK _ _ ⟨_, _, _, _, _, _, _, _, _, _, _, _, _, _, _, _, _, _, _, _, _, _, _, _, _, _, _, rfl, H.o8⟩
    · cases ho
      refine wpOp_step rfl fun K' hK => ?_
      rw [if_pos (by rfl)]
      go_simp
      exact hK _ _ ⟨_, _, _, _, _, _, _, _, _, _, _, _, _, _, _, _, _, _, _, _, _, _, _, _, _, _, _, rfl, H.o9⟩
    · cases ho
      refine wpOp_step rfl fun K' hK => ?_
      rw [if_pos (by rfl)]
      go_simp
      exact hK _ _ ⟨_, _, _, _, _, _, _, _, _, _, _, _, _, _, _, _, _, _, _, _, _, _, _, _, _, _, _, rfl, H.o10⟩
    · cases ho
      have e10 := H.c10 (haf_of haf 10 (by kernel_rfl))
      subst e10
      refine wpOp_step rfl fun K' hK => ?_
      rw [if_pos (by rfl)]
      go_simp
      exact hK _ _ ⟨_, _, _, _, _, _, _, _, _, _, _, _, _, _, _, _, _, _, _, _, _, _, _, _, _, _, _, rfl, H.o11⟩
    · cases ho
      have e11 := H.c11 (haf_of haf 11 (by kernel_rfl))
      subst e11
      refine wpOp_step rfl fun K' hK => ?_
      rw [if_pos (by rfl)]
      go_simp
      exact hK _ _ ⟨_, _, _, _, _, _, _, _, _, _, _, _, _, _, _, _, _, _, _, _, _, _, _, _, _, _, _, rfl, H.o12⟩
    · cases ho
      have e9 := H.c9 (haf_of haf 9 (by kernel_rfl))
      subst e9
      have e12 := H.c12 (haf_of haf 12 (by kernel_rfl))
      subst e12
      refine wpOp_step rfl fun K' hK => ?_
      rw [if_pos (by rfl)]
      go_simp
      refine (HC1.out _ H.bel).mono ?_
      rintro e w1 ⟨rfl, hg⟩
      exact hK _ _ ⟨_, _, _, _, _, _, _, _, _, _, _, _, _, _, _, _, _, _, _, _, _, _, _, _, _, _, _, rfl, H.o13 hg.below⟩
    · cases ho
      have e8 := H.c8 (haf_of haf 8 (by kernel_rfl))
      subst e8
      have e13 := H.c13 (haf_of haf 13 (by kernel_rfl))
      subst e13
      refine wpOp_step rfl fun K' hK => ?_
      rw [if_pos (by rfl)]
      go_simp
      exact hK _ _ ⟨_, _, _, _, _, _, _, _, _, _, _, _, _, _, _, _, _, _, _, _, _, _, _, _, _, _, _, rfl, H.o14⟩
    · cases ho
      have e14 := H.c14 (haf_of haf 14 (by kernel_rfl))
      subst e14
      refine wpOp_step rfl fun K' hK => ?_
      rw [if_pos (by rfl)]
      go_simp
      exact hK _ _ ⟨_, _, _, _, _, _, _, _, _, _, _, _, _, _, _, _, _, _, _, _, _, _, _, _, _, _, _, rfl, H.o15⟩
    · cases ho
      refine wpOp_step rfl fun K' hK => ?_
      rw [if_pos (by rfl)]
      go_simp
      exact hK _ _ ⟨_, _, _, _, _, _, _, _, _, _, _, _, _, _, _, _, _, _, _, _, _, _, _, _, _, _, _, rfl, H.o16⟩
    · cases ho
      refine wpOp_step rfl fun K' hK => ?_
      rw [if_pos (by rfl)]
      go_simp
      exact hK _ _ ⟨_, _, _, _, _, _, _, _, _, _, _, _, _, _, _, _, _, _, _, _, _, _, _, _, _, _, _, rfl, H.o17⟩
    · cases ho
      refine wpOp_step rfl fun K' hK => ?_
      rw [if_pos (by rfl)]
      go_simp
      exact hK _ _ ⟨_, _, _, _, _, _, _, _, _, _, _, _, _, _, _, _, _, _, _, _, _, _, _, _, _, _, _, rfl, H.o18⟩
    · cases ho
      have e18 := H.c18 (haf_of haf 18 (by kernel_rfl))
      subst e18
      refine wpOp_step rfl fun K' hK => ?_
      rw [if_pos (by rfl)]
      go_simp
      exact hK _ _ ⟨_, _, _, _, _, _, _, _, _, _, _, _, _, _, _, _, _, _, _, _, _, _, _, _, _, _, _, rfl, H.o19⟩
    · cases ho
      have e19 := H.c19 (haf_of haf 19 (by kernel_rfl))
      subst e19
      refine wpOp_step rfl fun K' hK => ?_
      rw [if_pos (by rfl)]
      go_simp
      exact hK _ _ ⟨_, _, _, _, _, _, _, _, _, _, _, _, _, _, _, _, _, _, _, _, _, _, _, _, _, _, _, rfl, H.o20⟩
    · cases ho
      have e17 := H.c17 (haf_of haf 17 (by kernel_rfl))
      subst e17
      have e20 := H.c20 (haf_of haf 20 (by kernel_rfl))
      subst e20
      refine wpOp_step rfl fun K' hK => ?_
      rw [if_pos (by rfl)]
      go_simp
      refine (HC2.out _ H.bel).mono ?_
      rintro e w1 ⟨rfl, hg⟩
      exact hK _ _ ⟨_, _, _, _, _, _, _, _, _, _, _, _, _, _, _, _, _, _, _, _, _, _, _, _, _, _, _, rfl, H.o21 hg.below⟩
    · cases ho
      have e16 := H.c16 (haf_of haf 16 (by kernel_rfl))
      subst e16
      have e21 := H.c21 (haf_of haf 21 (by kernel_rfl))
      subst e21
      refine wpOp_step rfl fun K' hK => ?_
      rw [if_pos (by rfl)]
      go_simp
      exact hK _ _ ⟨_, _, _, _, _, _, _, _, _, _, _, _, _, _, _, _, _, _, _, _, _, _, _, _, _, _, _, rfl, H.o22⟩
    · cases ho
      have e22 := H.c22 (haf_of haf 22 (by kernel_rfl))
      subst e22
      refine wpOp_step rfl fun K' hK => ?_
      rw [if_pos (by rfl)]
      go_simp
      exact hK _ _ ⟨_, _, _, _, _, _, _, _, _, _, _, _, _, _, _, _, _, _, _, _, _, _, _, _, _, _, _, rfl, H.o23⟩
    · refine wpOp_step rfl fun K' hK => ?_
      rw [if_pos (by rfl)]
      go_simp
      exact hK _ _ ⟨_, _, _, _, _, _, _, _, _, _, _, _, _, _, _, _, _, _, _, _, _, _, _, _, _, _, _, rfl, H.o24 hL⟩
    · refine wpOp_step rfl fun K' hK => ?_
      rw [if_pos (by rfl)]
      go_simp
      exact hK _ _ ⟨_, _, _, _, _, _, _, _, _, _, _, _, _, _, _, _, _, _, _, _, _, _, _, _, _, _, _, rfl, H.o25 hL⟩
    · refine wpOp_step rfl fun K' hK => ?_
      rw [if_pos (by rfl)]
      go_simp
      exact hK _ _ ⟨_, _, _, _, _, _, _, _, _, _, _, _, _, _, _, _, _, _, _, _, _, _, _, _, _, _, _, rfl, H.o26 hL⟩
    · cases ho
      have l24 : L.getD 24 false = true := (haf_of haf 24 (by kernel_rfl))
      have l25 : L.getD 25 false = true := (haf_of haf 25 (by kernel_rfl))
      have l26 : L.getD 26 false = true := (haf_of haf 26 (by kernel_rfl))
      have e0 := H.c7 (haf_of haf 7 (by kernel_rfl))
      obtain ⟨p, hb⟩ := H.b24 l24
      obtain ⟨g, hs, hge, -⟩ := id hb
      subst e0
      subst hs
      obtain ⟨⟨k0, k1, k2⟩, f0, f1, f2⟩ := hb.cells
      refine wpOp_step rfl fun K' hK => ?_
      rw [if_pos (by rfl)]
      go_simp
      exact hK _ _ ⟨_, _, _, _, _, _, _, _, _, _, _, _, _, _, _, _, _, _, _, _, _, _, _, _, _, _, _, rfl, H.o27 l24 l25 l26 rfl hb hge⟩
    · cases ho
      have l24 : L.getD 24 false = true := (haf_of haf 24 (by kernel_rfl))
      have l25 : L.getD 25 false = true := (haf_of haf 25 (by kernel_rfl))
      have l26 : L.getD 26 false = true := (haf_of haf 26 (by kernel_rfl))
      have e0 := H.c15 (haf_of haf 15 (by kernel_rfl))
      obtain ⟨p, hb⟩ := H.b25 l25
      obtain ⟨g, hs, hge, -⟩ := id hb
      subst e0
      subst hs
      obtain ⟨⟨k0, k1, k2⟩, f0, f1, f2⟩ := hb.cells
      refine wpOp_step rfl fun K' hK => ?_
      rw [if_pos (by rfl)]
      go_simp
      exact hK _ _ ⟨_, _, _, _, _, _, _, _, _, _, _, _, _, _, _, _, _, _, _, _, _, _, _, _, _, _, _, rfl, H.o28 l24 l25 l26 rfl hb hge⟩
    · cases ho
      have l24 : L.getD 24 false = true := (haf_of haf 24 (by kernel_rfl))
      have l25 : L.getD 25 false = true := (haf_of haf 25 (by kernel_rfl))
      have l26 : L.getD 26 false = true := (haf_of haf 26 (by kernel_rfl))
      have e0 := H.c23 (haf_of haf 23 (by kernel_rfl))
      obtain ⟨p, hb⟩ := H.b26 l26
      obtain ⟨g, hs, hge, -⟩ := id hb
      subst e0
      subst hs
      obtain ⟨⟨k0, k1, k2⟩, f0, f1, f2⟩ := hb.cells
      refine wpOp_step rfl fun K' hK => ?_
      rw [if_pos (by rfl)]
      go_simp
      exact hK _ _ ⟨_, _, _, _, _, _, _, _, _, _, _, _, _, _, _, _, _, _, _, _, _, _, _, _, _, _, _, rfl, H.o29 l24 l25 l26 rfl hb hge⟩
  · rintro L a' w' ⟨s6, s7, s8, s17, s18, s19, s20, s21, s22, s23, s24, s25, s26, s27, s28, s29, s30, s31, s32, s33, s34, s35, s36, s37, s38, s39, s40, rfl, H⟩ hr
    have hall := ready_nil H.z (by kernel_rfl) hr
    have h27 := H.e27 (hall 27 (by decide))
    have h28 := H.e28 (hall 28 (by decide))
    have h29 := H.e29 (hall 29 (by decide))
    have hB := H.bel
    obtain ⟨g6, hs6, hge6, -⟩ := id h27
    obtain ⟨g7, hs7, hge7, -⟩ := id h28
    obtain ⟨g8, hs8, hge8, -⟩ := id h29
    subst hs6 hs7 hs8
    obtain ⟨⟨z0, z1⟩, ⟨z2, z3⟩, z4, z5⟩ := And.intro (X2.below HU.out.1 hB) (And.intro (X2.below HU.out.2.1 hB) (X2.below HU.out.2.2 hB))
    have v0 := X2.grown (i := 0) (show X2 w' gH 0 p0 from ⟨z0, z1⟩)
    have v1 := X2.grown (i := 2) (show X2 w' gH 2 p1 from ⟨z2, z3⟩)
    have v2 := X2.grown (i := 4) (show X2 w' gH 4 p2 from ⟨z4, z5⟩)
    have v00 : ∀ n os, (grow (w'.drewN n) os).cell? ⟨gH, 0, none⟩ = some (.int .i64 p0.1) := v0.1
    have v01 : ∀ n os, (grow (w'.drewN n) os).cell? ⟨gH, 1, none⟩ = some (.int .i64 p0.2) := v0.2
    have v10 : ∀ n os, (grow (w'.drewN n) os).cell? ⟨gH, 2, none⟩ = some (.int .i64 p1.1) := v1.1
    have v11 : ∀ n os, (grow (w'.drewN n) os).cell? ⟨gH, 3, none⟩ = some (.int .i64 p1.2) := v1.2
    have v20 : ∀ n os, (grow (w'.drewN n) os).cell? ⟨gH, 4, none⟩ = some (.int .i64 p2.1) := v2.1
    have v21 : ∀ n os, (grow (w'.drewN n) os).cell? ⟨gH, 5, none⟩ = some (.int .i64 p2.2) := v2.2
    clear v0 v1 v2
    have HT := Lib.hid (fun W => pyTurn_any p0 p1 p2 W HSP.out.1 HSP.out.2.1 HSP.out.2.2)
    have HBX := Lib.hid (And.intro h27 (And.intro h28 h29))
    have HW := Lib.hid (bel2 HB3.out hB)
    have HQ4 := Lib.hid (HQ3.out.below hB)
    have hvb := nvO_bd HL.out HX.out
    unfold BdN at hvb
    rw [HDT.out] at hvb
    have HVX := Lib.hid (show vxV l x = spV (mkN (nvO l x).1 (trn p0 p1 p2)) (mkD (nvO l x).1 (trn p0 p1 p2)) (mkN (nvO l x).2.1 (trn p0 p1 p2)) (mkD (nvO l x).2.1 (trn p0 p1 p2)) by
      unfold vxV vxN vxD vyN vyD; rw [HDT.out])
    obtain ⟨D, hD⟩ : ∃ D, D = trn p0 p1 p2 := ⟨_, rfl⟩
    rw [← hD] at HT hvb HVX
    clear hD
    rw [HNV.out] at HVX hvb
    obtain ⟨⟨q1, q2⟩, ⟨q3, q4⟩, q5, q6⟩ := hvb
    have e1 := no1_eq (td l i0) (td l i1) (td l i2)
    have e2 := no2_eq (td l i0) (td l i1) (td l i2)
    have b0 := plT_parts HV.out.1
    have b1 := plT_parts HV.out.2.1
    have b2 := plT_parts HV.out.2.2
    obtain ⟨a, ha⟩ : ∃ a, a = td l i0 := ⟨_, rfl⟩
    obtain ⟨b, hb⟩ : ∃ b, b = td l i1 := ⟨_, rfl⟩
    obtain ⟨t, ht⟩ : ∃ t, t = td l i2 := ⟨_, rfl⟩
    rw [← ha] at e1 e2 b0 HVX HBX q1 q2 q3 q4
    rw [← hb] at e1 e2 b1 HVX HBX q1 q2 q3 q4
    rw [← ht] at e1 e2 b2 HVX HBX q1 q2 q3 q4
    obtain ⟨N1, hN1⟩ : ∃ N1, N1 = (noT a b t).1 := ⟨_, rfl⟩
    obtain ⟨N2, hN2⟩ : ∃ N2, N2 = (noT a b t).2.1 := ⟨_, rfl⟩
    rw [← hN1] at HVX q1 q2 e1
    rw [← hN2] at HVX q3 q4 e2
    have x1 := mulB2 (x := a.2.2 - b.2.2) (y := t.2.1 - a.2.1) (A := 2000000) (B := 6) (by omega) (by omega)
    have x2 := mulB2 (x := a.2.2 - t.2.2) (y := b.2.1 - a.2.1) (A := 2000000) (B := 6) (by omega) (by omega)
    have x3 := mulB2 (x := b.1 - a.1) (y := a.2.2 - t.2.2) (A := 6) (B := 2000000) (by omega) (by omega)
    have x4 := mulB2 (x := t.1 - a.1) (y := a.2.2 - b.2.2) (A := 6) (B := 2000000) (by omega) (by omega)
    have r1 : IntKind.i64.wrap (a.2.2 - b.2.2) = a.2.2 - b.2.2 := IntWalk.i64_in _ (by omega)
    have r2 : IntKind.i64.wrap (t.2.1 - a.2.1) = t.2.1 - a.2.1 := IntWalk.i64_in _ (by omega)
    have r3 : IntKind.i64.wrap ((a.2.2 - b.2.2) * (t.2.1 - a.2.1)) = (a.2.2 - b.2.2) * (t.2.1 - a.2.1) := IntWalk.i64_in _ (by omega)
    have r4 : IntKind.i64.wrap (a.2.2 - t.2.2) = a.2.2 - t.2.2 := IntWalk.i64_in _ (by omega)
    have r5 : IntKind.i64.wrap (b.2.1 - a.2.1) = b.2.1 - a.2.1 := IntWalk.i64_in _ (by omega)
    have r6 : IntKind.i64.wrap ((a.2.2 - t.2.2) * (b.2.1 - a.2.1)) = (a.2.2 - t.2.2) * (b.2.1 - a.2.1) := IntWalk.i64_in _ (by omega)
    have r7 : IntKind.i64.wrap ((a.2.2 - b.2.2) * (t.2.1 - a.2.1) - (a.2.2 - t.2.2) * (b.2.1 - a.2.1)) = N1 := by rw [e1]; exact IntWalk.i64_in _ (by omega)
    have r8 : IntKind.i64.wrap (b.1 - a.1) = b.1 - a.1 := IntWalk.i64_in _ (by omega)
    have r9 : IntKind.i64.wrap ((b.1 - a.1) * (a.2.2 - t.2.2)) = (b.1 - a.1) * (a.2.2 - t.2.2) := IntWalk.i64_in _ (by omega)
    have r10 : IntKind.i64.wrap (t.1 - a.1) = t.1 - a.1 := IntWalk.i64_in _ (by omega)
    have r11 : IntKind.i64.wrap ((t.1 - a.1) * (a.2.2 - b.2.2)) = (t.1 - a.1) * (a.2.2 - b.2.2) := IntWalk.i64_in _ (by omega)
    have r12 : IntKind.i64.wrap ((b.1 - a.1) * (a.2.2 - t.2.2) - (t.1 - a.1) * (a.2.2 - b.2.2)) = N2 := by rw [e2]; exact IntWalk.i64_in _ (by omega)
    clear H hall hr h27 h28 h29 hB z0 z1 z2 z3 z4 z5 ha hb ht e1 e2 x1 x2 x3 x4 hN1 hN2 HU HY HC0 HC1 HC2 HQ3 HB3
    go_wp2
    dsimp only [actVx]
    refine wp_region_quiet_grown (by kernel_rfl) (by kernel_rfl) ?_
    repeat (go_big_quiet_step ((first | (go_at_call 83; refine Calls.grown_of (HT.out _)))))
    refine wpQuiet_nil ?_
    intro _ hw'
    obtain ⟨⟨nq, osq⟩, hw''⟩ := hw'
    subst hw''
    have bG : Below w'.heap.size w' (grow (w'.drewN nq) osq) := grB _ _
    have HW5 := Lib.hid (bel2 HW.out bG)
    have HQ5 := Lib.hid (HQ4.out.below bG)
    have hb6 := HBX.out.1.gr bG
    have hb7 := HBX.out.2.1.gr bG
    have hb8 := HBX.out.2.2.gr bG
    clear v00 v01 v10 v11 v20 v21 bG HBX HW HQ4
    generalize grow (w'.drewN nq) osq = w5 at HW5 HQ5 hb6 hb7 hb8 ⊢
    have HBX := Lib.hid (And.intro hb6 (And.intro hb7 hb8))
    obtain ⟨⟨s0, s1, s2⟩, -⟩ := hb6.cells
    obtain ⟨⟨s3, s4, s5⟩, -⟩ := hb7.cells
    obtain ⟨⟨s6, s7, s8⟩, -⟩ := hb8.cells
    clear hb6 hb7 hb8
    go_wp2_with fail
    refine (frMake_any N1 D _ (by unfold wide; omega) (by unfold wide; omega)).mono ?_
    rintro e w6 ⟨rfl, b6⟩
    have hF6 := F2.new w6 (mkN N1 D) (mkD N1 D)
    have bA6 : Below w6.heap.size w6 (w6.alloc (.cells #[.int .i64 (mkN N1 D), .int .i64 (mkD N1 D)] 39)) := (Below.refl _ _).alloc (Nat.le_refl _) _
    have hb67 := bel2 b6 bA6
    obtain ⟨⟨s0, s1, s2⟩, -⟩ := (HBX.out.1.gr hb67).cells
    obtain ⟨⟨s3, s4, s5⟩, -⟩ := (HBX.out.2.1.gr hb67).cells
    obtain ⟨⟨s6, s7, s8⟩, -⟩ := (HBX.out.2.2.gr hb67).cells
    have HW7 := Lib.hid (bel2 HW5.out hb67)
    have HQ7 := Lib.hid (HQ5.out.below hb67)
    have HF7 := Lib.hid hF6
    clear b6 bA6 hb67 HW5 HQ5 HBX hF6
    go_upto_region 5 with fail
    generalize w6.heap.size = G6 at HF7 ⊢
    generalize w6.alloc (.cells #[.int .i64 (mkN N1 D), .int .i64 (mkD N1 D)] 39) = w7 at s0 s1 s2 s3 s4 s5 s6 s7 s8 HW7 HQ7 HF7 ⊢
    go_wp2_with fail
    refine (frMake_any N2 D _ (by unfold wide; omega) (by unfold wide; omega)).mono ?_
    rintro e w8 ⟨rfl, b8⟩
    have hF8 := F2.new w8 (mkN N2 D) (mkD N2 D)
    have bA8 : Below w8.heap.size w8 (w8.alloc (.cells #[.int .i64 (mkN N2 D), .int .i64 (mkD N2 D)] 39)) := (Below.refl _ _).alloc (Nat.le_refl _) _
    have hb89 := bel2 b8 bA8
    have HF9 := Lib.hid (HF7.out.below hb89)
    have HW9 := Lib.hid (bel2 HW7.out hb89)
    have HQ9 := Lib.hid (HQ7.out.below hb89)
    have HF10 := Lib.hid hF8
    clear s0 s1 s2 s3 s4 s5 s6 s7 s8 b8 bA8 hb89 HW7 HQ7 HF7 hF8 r1 r2 r3 r4 r5 r6 r7 r8 r9 r10 r11 r12
    go_upto_region 6 with fail
    generalize w8.heap.size = G8 at HF10 ⊢
    generalize w8.alloc (.cells #[.int .i64 (mkN N2 D), .int .i64 (mkD N2 D)] 39) = w9 at HF9 HW9 HQ9 HF10 ⊢
    obtain ⟨f0, f1, -, -⟩ := HF9.out
    obtain ⟨f2, f3, -, -⟩ := HF10.out
    obtain ⟨⟨s0, s1, s2, s3⟩, u0, u1, u2, u3⟩ := HQ9.out.cells
    have lw : w.heap.size < w9.heap.size := cell_lt s0
    go_wp2
    refine bodyPost_ret (Q4.result (g := w.heap.size) (HQ9.out.put (mkN N1 D) (mkD N1 D) (mkN N2 D) (mkD N2 D)) rfl rfl) rfl ?_
    exact ⟨by rw [HVX.out], belQ4 HW9.out (Nat.le_refl _) _ _ _ _⟩
end Go.Proofs.YtbapepflfgcioaaGreat
