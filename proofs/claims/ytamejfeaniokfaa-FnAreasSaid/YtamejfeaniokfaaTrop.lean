/-
  The functions of chapter 1 on lists, of the program and of the model: what each call returns.
  Condition: the slice reads as the list that is named; the table of the neutral numbers is as the program's text lays it.
-/
import Derived.Test.YtamejfeaniokfaaShift
import Derived.LaidMore
import Derived.Stop.Joined
import Derived.Lib.LaidTab
import Derived.MakeChecks
namespace Go.Proofs.Ytamejfeaniokfaa
set_option linter.unusedSimpArgs false
set_option linter.unusedVariables false
open Go.ChangeShapes Go.WideShapes Go.ChangeAt Go.RowKit

/-- The sum of a list, 0 for what is none. -/
def sumV (zs : List Int) : Int := if listB zs = true then leastL zs else 0
/-- The places below k of the elements equal to m. -/
def plc (zs : List Int) (m : Int) : Nat → List Int
  | 0 => []
  | k + 1 => plc zs m k ++ (if (gd zs k == m) = true then [(k : Int)] else [])
def places (zs : List Int) : List Int := plc zs (leastL zs) zs.length
theorem plc_yes {zs : List Int} {m : Int} {k : Nat} (h : (gd zs k == m) = true) : plc zs m (k + 1) = plc zs m k ++ [(k : Int)] := by simp only [plc, if_pos h]
theorem plc_no {zs : List Int} {m : Int} {k : Nat} (h : (gd zs k == m) = false) : plc zs m (k + 1) = plc zs m k := by simp [plc, h]
theorem plc_len (zs : List Int) (m : Int) (k : Nat) : (plc zs m k).length ≤ k := by
  induction k with
  | zero => simp [plc]
  | succ k ih =>
    simp only [plc, List.length_append]
    split <;> simp <;> omega
def lpRes (zs : List Int) : List Int := if listB zs = true then places zs else []
theorem lpRes_yes {zs : List Int} (h : listB zs = true) : lpRes zs = places zs := if_pos h
theorem lpRes_no {zs : List Int} (h : listB zs = false) : lpRes zs = [] := if_neg (by simp [h])
theorem lpRes_le {zs : List Int} {m : Nat} (h : zs.length ≤ m) : (lpRes zs).length ≤ m := by
  unfold lpRes; split
  · exact Nat.le_trans (plc_len _ _ _) h
  · simp
/-- Does a list vanish. -/
def vanB (zs : List Int) : Bool := (leastL zs == 1000000000) || decide (1 < (places zs).length)
def vanR (zs : List Int) : Bool := listB zs && vanB zs
def SaysBB (a b : Bool) (w : World) (e : Ending) (w' : World) : Prop := e = .returned (.tuple #[.bool a, .bool b]) ∧ Below w.heap.size w w'
theorem ret_bb {a b c d : Bool} (h : a = b) (h' : c = d) : Ending.returned (.tuple #[.bool a, .bool c]) = .returned (.tuple #[.bool b, .bool d]) := by rw [h, h']
end Go.Proofs.Ytamejfeaniokfaa
