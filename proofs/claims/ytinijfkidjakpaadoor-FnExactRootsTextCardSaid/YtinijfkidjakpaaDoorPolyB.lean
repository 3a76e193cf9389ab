/-
  Closures over the terms and coefficients of a polynomial, and the values that they tell: what each call returns.
  Conditions: the slice reads as the list that is named; a function value answers as the function that is named.
-/
import Derived.Test.YtinijfkidjakpaaDoorPoly
namespace Go.Proofs.YtinijfkidjakpaaDoor
set_option linter.unusedSimpArgs false
set_option linter.unusedVariables false
open Go.ChangeShapes Go.WideShapes Go.ChangeAt Go.RowKit

/-- A function of the program is entered when it is called by its value. -/
abbrev Ent (g : Nat) : Prop := ∀ (args : Array Value) (w : World), (callFunc g args).run Tryd.prog w = .ok (.enter g args) w
/-- The function value tells f at each place below n, whatever was made since. -/
def FnAt (g : Nat) (lb : Array Value) (n : Nat) (f : Nat → Int) (w : World) : Prop := ∀ (W : World) (i : Nat), i < n → Below w.heap.size w W → Calls Tryd.prog g (#[.int .i64 (i : Int)] ++ lb) W fun e w' => e = .returned (.int .i64 (f i)) ∧ Below W.heap.size W w'
theorem FnAt.later {g : Nat} {lb : Array Value} {n : Nat} {f : Nat → Int} {w W : World} (h : FnAt g lb n f w) (hb : Below w.heap.size w W) : FnAt g lb n f W :=
  fun W' i hi hb' => h W' i hi (bel2 hb hb')
/-- What a call gives that makes such a value. -/
def FnVal (g n : Nat) (f : Nat → Int) (w : World) (e : Ending) (w' : World) : Prop := ∃ lb, e = .returned (.func (.func g) #[] lb) ∧ FnAt g lb n f w' ∧ Below w.heap.size w w'
theorem box_new (w : World) (v : Value) (t : TypeId) : (w.alloc (.cells #[v] t)).cell? ⟨w.heap.size, 0, none⟩ = some v :=
  cell_of_row (w.alloc (.cells #[v] t)) w.heap.size 0 #[v] t (0, 0) (heap_alloc_new w _)
theorem box_old {w w' : World} {a : Addr} {v : Value} (h : w.cell? a = some v) (hb : Below w.heap.size w w') : w'.cell? a = some v := (hb.cell (p := a) (cell_lt h)).trans h
theorem Row.below {w w' : World} {B g n : Nat} {zs : List Int} (h : Row w B g n zs) (hb : Below w.heap.size w w') : Row w' B g n zs := by
  refine ⟨h.1, ?_⟩
  rcases h.2 with h0 | ⟨g', cap, cur, h1, h2, h3, h4⟩
  · exact .inl h0
  · refine .inr ⟨g', cap, cur, h1, h2, (hb.block g' ?_).trans h3, h4⟩
    exact (World.ownsRow.lt h g' (by rw [h1]; rfl)).2
end Go.Proofs.YtinijfkidjakpaaDoor
