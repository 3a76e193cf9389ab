/-
  The functions of chapter 3 on polynomials, of the program and of the model: least terms, slopes, sums, products, moved ones: what each call returns.
  Condition: the slices read as the lists that are named.
-/
import Derived.Test.YtklcildhfcomnaaGreatDoorPolyB
namespace Go.Proofs.YtklcildhfcomnaaGreatDoor
set_option linter.unusedSimpArgs false
set_option linter.unusedVariables false
open Go.ChangeShapes Go.WideShapes Go.ChangeAt Go.RowKit

theorem ret_iib {a b c d : Int} {e f : Bool} (h : a = b) (h' : c = d) (h'' : e = f) : Ending.returned (.tuple #[.int .i64 a, .int .i64 c, .bool e]) = .returned (.tuple #[.int .i64 b, .int .i64 d, .bool f]) := by rw [h, h', h'']
/-- A new slice that is laid out whole. -/
theorem IS.lit (w : World) (x : Int) : IS (w.alloc (.cells #[.int .i64 x] 3)) w.heap.size (.slice (some ⟨w.heap.size, 0, none⟩) 1 1) [x] :=
  World.ownsRow_lit w #[.int .i64 x] 1 (Nat.le_refl _) (by decide) rfl
end Go.Proofs.YtklcildhfcomnaaGreatDoor
