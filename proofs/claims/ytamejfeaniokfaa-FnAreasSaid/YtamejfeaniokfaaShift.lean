/-
  ShiftList, of the program and of the model: what each call returns.
  Condition: the slice reads as the list that is named.
-/
import Derived.Test.YtamejfeaniokfaaList
namespace Go.Proofs.Ytamejfeaniokfaa
set_option linter.unusedSimpArgs false
set_option linter.unusedVariables false
open Go.ChangeShapes Go.WideShapes Go.ChangeAt Go.RowKit

/-- The products of all elements with a number. -/
def shiftL (zs : List Int) (d : Int) : List Int := zs.map fun n => plusI n d
/-- Are all of them numbers. -/
def shiftB (zs : List Int) (d : Int) : Bool := zs.all fun n => numB (plusI n d)
/-- What a call gives that makes a new slice and tells whether it could. -/
def GivesIB (ok : Bool) (zs : List Int) (w : World) (e : Ending) (w' : World) : Prop := ∃ r, e = .returned (.tuple #[r, .bool ok]) ∧ IS w' w.heap.size r zs ∧ Below w.heap.size w w'
def shiftR (zs : List Int) (d : Int) : List Int := if shiftB zs d = true then shiftL zs d else []
theorem shiftR_yes {zs : List Int} {d : Int} (h : shiftB zs d = true) : shiftR zs d = shiftL zs d := if_pos h
theorem shiftR_no {zs : List Int} {d : Int} (h : shiftB zs d = false) : shiftR zs d = [] := if_neg (by simp [h])
theorem shift_next (zs : List Int) (d : Int) (k : Nat) (hk : k < zs.length) : shiftL (zs.take (k + 1)) d = shiftL (zs.take k) d ++ [plusI (gd zs k) d] := by
  unfold shiftL; rw [take_succ_gd zs k hk, List.map_append]; rfl
theorem shift_bad (zs : List Int) (d : Int) (k : Nat) (hk : k < zs.length) (h : numB (plusI (gd zs k) d) = false) : shiftB zs d = false := by
  unfold shiftB
  rw [List.all_eq_false]
  exact ⟨zs[k], List.getElem_mem hk, by rw [gd_eq zs k hk] at h; simpa using h⟩
theorem shiftB_next (zs : List Int) (d : Int) (k : Nat) (hk : k < zs.length) (h0 : shiftB (zs.take k) d = true) (h : numB (plusI (gd zs k) d) = true) : shiftB (zs.take (k + 1)) d = true := by
  unfold shiftB at h0 ⊢; rw [take_succ_gd zs k hk, List.all_append, h0]; simpa using h
theorem num_at (zs : List Int) (h : zs.all numB = true) (k : Nat) (hk : k < zs.length) : numB (gd zs k) = true := by
  rw [gd_eq zs k hk]; exact List.all_eq_true.1 h _ (List.getElem_mem hk)
theorem orZ_of {n : Int} (h : numB n = true) : orZ n = n := by unfold orZ; rw [if_pos h]
theorem givesIB_nil {ok : Bool} {zs : List Int} {w w' : World} (h1 : ok = false) (h2 : zs = []) (hb : Below w.heap.size w w') : GivesIB ok zs w (.returned (.tuple #[.slice none 0 0, .bool false])) w' := by
  subst h1; subst h2; exact ⟨_, rfl, IS.nil_ _ _, hb⟩
theorem givesIB_yes {ok : Bool} {zs : List Int} {r : Value} {w w' : World} (h1 : ok = true) (h2 : IS w' w.heap.size r zs) (hb : Below w.heap.size w w') : GivesIB ok zs w (.returned (.tuple #[r, .bool true])) w' := by
  subst h1; exact ⟨_, rfl, h2, hb⟩
/-- One element behind an owned row. -/
theorem IS.snoc {w' : World} {B : Nat} {v : Value} {xs : List Int} {x : Int} {n : Nat} (hn : n = xs.length) (h : w'.ownsRow B 3 1 v (n + 1) (ints xs ++ [.int .i64 x])) : IS w' B v (xs ++ [x]) := by
  subst hn
  unfold IS ints
  rw [List.map_append, List.length_append]
  exact h
theorem one_new (w : World) (x : Int) : ∀ j u, [Value.int .i64 x][j]? = some u → (w.alloc (.cells #[.int .i64 x] 3)).cell? ((⟨w.heap.size, 0, none⟩ : Addr).add j) = some u := by
  intro j u h
  cases j with
  | zero =>
    simp at h
    subst h
    exact cell_of_row (w.alloc (.cells #[.int .i64 x] 3)) w.heap.size 0 #[.int .i64 x] 3 (0, 0) (heap_alloc_new w _)
  | succ j => simp at h
theorem shift_len (zs : List Int) (d : Int) : (shiftL zs d).length = zs.length := by simp [shiftL]
theorem shift_gd (zs : List Int) (d : Int) (k : Nat) (hk : k < zs.length) : gd (shiftL zs d) k = plusI (gd zs k) d := by
  rw [gd_eq _ k (by rw [shift_len]; exact hk), gd_eq zs k hk]; simp [shiftL]
/-- Can a list be shifted by a number; and what it is then. -/
def shOk (zs : List Int) (d : Int) : Bool := listB zs && (finB d && shiftB zs d)
def shRes (zs : List Int) (d : Int) : List Int := if shOk zs d = true then shiftL zs d else []
theorem shRes_no {zs : List Int} {d : Int} (h : shOk zs d = false) : shRes zs d = [] := if_neg (by simp [h])
theorem shRes_yes {zs : List Int} {d : Int} (h : shOk zs d = true) : shRes zs d = shiftL zs d := if_pos h
theorem shRes_le {zs : List Int} {d : Int} {m : Nat} (h : zs.length ≤ m) : (shRes zs d).length ≤ m := by
  unfold shRes; split
  · rw [shift_len]; exact h
  · simp
theorem list_parts {zs : List Int} (h : listB zs = true) : zs.length ≤ 20 ∧ zs.all numB = true := by
  unfold listB at h; simpa using h
theorem GivesIB.of {ok ok' : Bool} {zs zs' : List Int} {w : World} {e : Ending} {w' : World} (h : GivesIB ok zs w e w') (h1 : ok = ok') (h2 : zs = zs') : GivesIB ok' zs' w e w' := by subst h1; subst h2; exact h
end Go.Proofs.Ytamejfeaniokfaa
