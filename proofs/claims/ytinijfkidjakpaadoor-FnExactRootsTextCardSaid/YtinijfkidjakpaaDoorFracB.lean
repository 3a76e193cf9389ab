/-
  The operations on two fractions, of the program and of the model: what each call returns.
  No condition but that the parts are integers of Go's int.
-/
import Derived.Test.YtinijfkidjakpaaDoorFrac
namespace Go.Proofs.YtinijfkidjakpaaDoor
set_option linter.unusedSimpArgs false
set_option linter.unusedVariables false
open Go.ChangeShapes Go.WideShapes Go.ChangeAt Go.RowKit

/-- Are both fractions. -/
def twoB (a b c d : Int) : Bool := frB a b && frB c d
/-- A number, or 0. -/
def okF (g : Bool) (v : Int) : Int := if g = true then v else 0
/-- What an operation gives whose parts are n and e. -/
def GivesOp (g : Bool) (n e : Int) (w : World) (x : Ending) (w' : World) : Prop := GivesF (okF g (mkN n e)) (okF g (mkD n e)) (g && mkB n e) w x w'
theorem givesOp_no {g : Bool} {n e : Int} {w w' : World} (h : g = false) (hb : Below w.heap.size w w') : GivesOp g n e w (.returned (.tuple #[fracV 0 0, .bool false])) w' := by
  subst h; exact ⟨rfl, hb⟩
theorem givesOp_yes {g : Bool} {n e q r : Int} {b : Bool} {w w' : World} (h : g = true) (hq : q = mkN n e) (hr : r = mkD n e) (hm : b = mkB n e) (hb : Below w.heap.size w w') : GivesOp g n e w (.returned (.tuple #[fracV q r, .bool b])) w' := by
  subst h hq hr hm; exact ⟨rfl, hb⟩
theorem mul9 {a b : Int} (ha : -1000000000 ≤ a ∧ a ≤ 1000000000) (hb : -1000000000 ≤ b ∧ b ≤ 1000000000) : -1000000000000000000 ≤ a * b ∧ a * b ≤ 1000000000000000000 := by
  have h1 : (a * b).natAbs ≤ 1000000000 * 1000000000 := by
    rw [Int.natAbs_mul]; exact Nat.mul_le_mul (by omega) (by omega)
  omega
/-- The parts lie within a fraction's limits. -/
def Lim (a : Int) : Prop := -1000000000 ≤ a ∧ a ≤ 1000000000
theorem frB_lim {n d : Int} (h : frB n d = true) : Lim n ∧ Lim d := by
  have := frB_bd h
  unfold Lim
  omega
theorem bel_at {w W w1 : World} {g : Nat} (hg : w.heap.size ≤ g) (b0 : Below w.heap.size w W) (b1 : Below W.heap.size W w1) (u v : Value) : Below w.heap.size w ((w1.setCell ⟨g, 0, none⟩ u).setCell ⟨g, 1, none⟩ v) :=
  ((bel2 b0 b1).setCell hg u).setCell hg v
/-- Two boxed fractions and a cell for the result. -/
theorem box2 (w : World) (a b c d : Int) : F2 ((w.alloc (.cells #[.int .i64 a, .int .i64 b] 31)).alloc (.cells #[.int .i64 c, .int .i64 d] 31)) w.heap.size a b ∧ F2 ((w.alloc (.cells #[.int .i64 a, .int .i64 b] 31)).alloc (.cells #[.int .i64 c, .int .i64 d] 31)) (w.heap.size + 1) c d :=
  ⟨(F2.new w a b).old _, F2.new_ c d (World.size_alloc _ _)⟩
theorem box3 (w : World) (a b c d : Int) : F2 (((w.alloc (.cells #[.int .i64 a, .int .i64 b] 31)).alloc (.cells #[.int .i64 c, .int .i64 d] 31)).alloc (.cells #[.int .i64 0, .int .i64 0] 31)) w.heap.size a b ∧ F2 (((w.alloc (.cells #[.int .i64 a, .int .i64 b] 31)).alloc (.cells #[.int .i64 c, .int .i64 d] 31)).alloc (.cells #[.int .i64 0, .int .i64 0] 31)) (w.heap.size + 1) c d ∧ F2 (((w.alloc (.cells #[.int .i64 a, .int .i64 b] 31)).alloc (.cells #[.int .i64 c, .int .i64 d] 31)).alloc (.cells #[.int .i64 0, .int .i64 0] 31)) (w.heap.size + 1 + 1) 0 0 :=
  ⟨((F2.new w a b).old _).old _, (F2.new_ c d (World.size_alloc _ _)).old _, F2.new_ 0 0 (by simp)⟩
theorem F3.below {w w1 : World} {g h k : Nat} {a b c d : Int} (H : F2 w g a b ∧ F2 w h c d ∧ F2 w k 0 0) (hb : Below w.heap.size w w1) : F2 w1 g a b ∧ F2 w1 h c d ∧ F2 w1 k 0 0 := ⟨H.1.below hb, H.2.1.below hb, H.2.2.below hb⟩
theorem addition_wide {a b c d : Int} (h1 : frB a b = true) (h2 : frB c d = true) : wide (a * d + c * b) ∧ wide (b * d) := by
  obtain ⟨ha, hb⟩ := frB_lim h1
  obtain ⟨hc, hd⟩ := frB_lim h2
  have p := mul9 ha hd
  have q := mul9 hc hb
  have r := mul9 hb hd
  have s := mul9 ha hc
  have t := mul9 hb hc
  unfold wide
  omega
theorem subtraction_wide {a b c d : Int} (h1 : frB a b = true) (h2 : frB c d = true) : wide (a * d - c * b) ∧ wide (b * d) := by
  obtain ⟨ha, hb⟩ := frB_lim h1
  obtain ⟨hc, hd⟩ := frB_lim h2
  have p := mul9 ha hd
  have q := mul9 hc hb
  have r := mul9 hb hd
  have s := mul9 ha hc
  have t := mul9 hb hc
  unfold wide
  omega
theorem multiplication_wide {a b c d : Int} (h1 : frB a b = true) (h2 : frB c d = true) : wide (a * c) ∧ wide (b * d) := by
  obtain ⟨ha, hb⟩ := frB_lim h1
  obtain ⟨hc, hd⟩ := frB_lim h2
  have p := mul9 ha hd
  have q := mul9 hc hb
  have r := mul9 hb hd
  have s := mul9 ha hc
  have t := mul9 hb hc
  unfold wide
  omega
theorem division_wide {a b c d : Int} (h1 : frB a b = true) (h2 : frB c d = true) : wide (a * d) ∧ wide (b * c) := by
  obtain ⟨ha, hb⟩ := frB_lim h1
  obtain ⟨hc, hd⟩ := frB_lim h2
  have p := mul9 ha hd
  have q := mul9 hc hb
  have r := mul9 hb hd
  have s := mul9 ha hc
  have t := mul9 hb hc
  unfold wide
  omega
end Go.Proofs.YtinijfkidjakpaaDoor
