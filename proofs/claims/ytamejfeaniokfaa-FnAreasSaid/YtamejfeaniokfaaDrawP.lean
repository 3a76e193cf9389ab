/-
  Polynomials as the model draws them: what each call returns.
  Condition: the cursor lies in a block of its own, over bytes.
-/
import Derived.Test.YtamejfeaniokfaaDraw
import Derived.Deep.RegionHeld3
import Derived.Test.YtamejfeaniokfaaShift
import Derived.Deep.DeepCutAuto
namespace Go.Proofs.Ytamejfeaniokfaa
set_option linter.unusedSimpArgs false
set_option linter.unusedVariables false
open Go.ChangeShapes Go.WideShapes Go.ChangeAt Go.RowKit

def lenP : Value → Nat
  | .slice _ n _ => n
  | _ => 0
theorem grown_own {a w w' : World} {row r : Option Nat} (h : a.grownBy w row) (hg : w.grownBy w' r) (hr : ∀ k, r = some k → a.heap.size ≤ k) : a.grownBy w' row :=
  ⟨hg.os.trans h.os, hg.tape.trans h.tape, hg.output.trans h.output, Nat.le_trans h.size hg.size, fun k hk hne => (hg.block k (Nat.lt_of_lt_of_le hk h.size) (fun e => by have := hr k e.symm; omega)).trans (h.block k hk hne)⟩
theorem bel_drawsP {w w0 w' : World} {c : Nat} (b0 : Below w.heap.size w w0) (h : w0.grownBy w' (some c)) (hc : w.heap.size ≤ c) : Below w.heap.size w w' :=
  b0.grown h b0.size (fun k hk => by injection hk with hk; omega)
/-- A drawn list. -/
def TakesL (m b k : Nat) (w : World) (e : Ending) (w' : World) : Prop := ∃ v zs, e = .returned v ∧ IS w' w.heap.size v zs ∧ zs.length ≤ m ∧ Cur w' b k ∧ w.grownBy w' (some b)
end Go.Proofs.Ytamejfeaniokfaa
