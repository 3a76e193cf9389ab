/-
  The vertex of a cell: the model's cuVertex.
  Condition: the slices read as what is named; the terms are valid, the cell is one.
-/
import Derived.Test.YthegkifhbgopoaaCuM
import Derived.Deep.RegionHeld3
namespace Go.Proofs.Ythegkifhbgopoaa
set_option linter.unusedSimpArgs false
set_option linter.unusedVariables false
open Go.ChangeShapes Go.WideShapes Go.ChangeAt Go.RowKit
open Go.Sort (grow)

/-- A spot as a value, and in a block. -/
abbrev spV (a b c d : Int) : Value := .agg #[.int .i64 a, .int .i64 b, .int .i64 c, .int .i64 d]
abbrev vxV (l : List Tm) (x : List Int) : Value := spV (vxN l x) (vxD l x) (vyN l x) (vyD l x)
def Q4 (w : World) (g : Nat) (a b c d : Int) : Prop := w.heap[g]? = some (.cells #[.int .i64 a, .int .i64 b, .int .i64 c, .int .i64 d] 34 (0, 0))
theorem Q4.cells {w : World} {g : Nat} {a b c d : Int} (h : Q4 w g a b c d) : (w.cell? ⟨g, 0, none⟩ = some (.int .i64 a) ∧ w.cell? ⟨g, 1, none⟩ = some (.int .i64 b) ∧ w.cell? ⟨g, 2, none⟩ = some (.int .i64 c) ∧ w.cell? ⟨g, 3, none⟩ = some (.int .i64 d)) ∧
    (w.frozen? ⟨g, 0, none⟩ = false ∧ w.frozen? ⟨g, 1, none⟩ = false ∧ w.frozen? ⟨g, 2, none⟩ = false ∧ w.frozen? ⟨g, 3, none⟩ = false) := by
  unfold Q4 at h
  refine ⟨⟨?_, ?_, ?_, ?_⟩, ?_, ?_, ?_, ?_⟩ <;> simp [World.cell?, World.frozen?, h]
theorem Q4.below {w w' : World} {g : Nat} {a b c d : Int} (h : Q4 w g a b c d) (hb : Below w.heap.size w w') : Q4 w' g a b c d := (hb.block g (Array.getElem?_eq_some_iff.1 h).1).trans h
theorem Q4.new (w : World) (a b c d : Int) : Q4 (w.alloc (.cells #[.int .i64 a, .int .i64 b, .int .i64 c, .int .i64 d] 34)) w.heap.size a b c d := heap_alloc_new w _
theorem Q4.put {w : World} {g : Nat} {a b c d : Int} (h : Q4 w g a b c d) (a' b' c' d' : Int) : Q4 ((((w.setCell ⟨g, 0, none⟩ (.int .i64 a')).setCell ⟨g, 1, none⟩ (.int .i64 b')).setCell ⟨g, 2, none⟩ (.int .i64 c')).setCell ⟨g, 3, none⟩ (.int .i64 d')) g a' b' c' d' :=
  heap_set_at _ (heap_set_at _ (heap_set_at _ (heap_set_at _ h)))
theorem Q4.load {w : World} {g : Nat} {a b c d : Int} (h : Q4 w g a b c d) : (loadVar 34 ⟨g, 0, none⟩).run Try.prog w = .ok (spV a b c d) w := by
  obtain ⟨⟨h1, h2, h3, h4⟩, -⟩ := h.cells
  simp [loadVar, go_sem, h1, h2, h3, h4]
theorem Q4.result {w : World} {g : Nat} {a b c d : Int} (h : Q4 w g a b c d) {fn : Func} {p : Tmp} {ts : Array Value} (hr : fn.results = #[.cell p 34]) (hp : ts.getD p undef = .pointer (some ⟨g, 0, none⟩)) : (Go.results fn ts).run Try.prog w = Result.ok (spV a b c d) w := by
  have hp' : ts[p]?.getD undef = .pointer (some ⟨g, 0, none⟩) := by simpa using hp
  have ha : (asAddr (Value.pointer (some ⟨g, 0, none⟩))).run Try.prog w = .ok ⟨g, 0, none⟩ w := rfl
  simp only [Go.results, hr]
  simp [Sem.run_bind, Result.andThen, hp', ha, h.load]
theorem Q4.results {w : World} {g : Nat} {a b c d : Int} (h : Q4 w g a b c d) {fn : Func} {p u : Tmp} {ts : Array Value} {v : Value} (hr : fn.results = #[.cell p 34, .tmp u]) (hp : ts.getD p undef = .pointer (some ⟨g, 0, none⟩)) (hu : ts.getD u undef = v) : (Go.results fn ts).run Try.prog w = .ok (.tuple #[spV a b c d, v]) w := by
  rw [results_cell_tmp hr, hp, hu]
  rw [show (asAddr (Value.pointer (some ⟨g, 0, none⟩))).run Try.prog w = .ok ⟨g, 0, none⟩ w from rfl]
  simp only [Result.andThen]
  rw [h.load]
theorem belQ4 {x w : World} (h : Below x.heap.size x w) {g : Nat} (hg : x.heap.size ≤ g) (a b c d : Value) : Below x.heap.size x ((((w.setCell ⟨g, 0, none⟩ a).setCell ⟨g, 1, none⟩ b).setCell ⟨g, 2, none⟩ c).setCell ⟨g, 3, none⟩ d) :=
  belS (belS (belS (belS h hg _ _) hg _ _) hg _ _) hg _ _
theorem no1_eq (a b t : Tm) : (noT a b t).1 = (a.2.2 - b.2.2) * (t.2.1 - a.2.1) - (a.2.2 - t.2.2) * (b.2.1 - a.2.1) := by unfold noT crT stT; grind
theorem no2_eq (a b t : Tm) : (noT a b t).2.1 = (b.1 - a.1) * (a.2.2 - t.2.2) - (t.1 - a.1) * (a.2.2 - b.2.2) := by unfold noT crT stT; grind
end Go.Proofs.Ythegkifhbgopoaa
