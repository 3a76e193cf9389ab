/-
  The functions of chapter 3 that make polynomials of polynomials, of the program and of the model: what each call returns.
  Condition: the slices read as the lists that are named.
-/
import Derived.Test.YtklcildhfcomnaaGreatDoorPolyC
import Derived.IntWalk
import Derived.Laws.EntriesVeiled
namespace Go.Proofs.YtklcildhfcomnaaGreatDoor
set_option linter.unusedSimpArgs false
set_option linter.unusedVariables false
open Go.ChangeShapes Go.WideShapes Go.ChangeAt Go.RowKit

/-- leastAmong, where its count is some integer. -/
theorem leastAmong_at (w : World) (hN : Neut w) (g : Nat) (lb : Array Value) (eg : Ent g) (n : Nat) (m : Int) (hm : m = n) (hn : n ≤ 1000) (f : Nat → Int) (hp : FnAt g lb n f w) : Calls Tryz.prog 53 #[.int .i64 m, .func (.func g) #[] lb] w fun e w' => e = .returned (.int .i64 (leastL (tab f n))) ∧ Below w.heap.size w w' := by
  subst hm; exact leastAmong_any w hN g lb eg n hn f hp
/-- Can two polynomials be multiplied; and the product. -/
def pdB (p q : List Int) : Bool := poB p && (poB q && poB (prL p q))
def pdR (p q : List Int) : List Int := if pdB p q = true then prL p q else []
theorem pdR_no {p q : List Int} (h : pdB p q = false) : pdR p q = [] := if_neg (by simp [h])
theorem pd_of {p q : List Int} (hp : poB p = true) (hq : poB q = true) : pdB p q = poB (prL p q) := by simp [pdB, hp, hq]
theorem pdR_of {p q : List Int} (hp : poB p = true) (hq : poB q = true) : pdR p q = okL (prL p q) := by unfold pdR okL; rw [pd_of hp hq]
theorem pdR_le (p q : List Int) : (pdR p q).length ≤ 13 := by
  unfold pdR; split
  · rename_i h
    simp only [pdB, Bool.and_eq_true] at h
    exact (po_parts h.2.2).2.2.1
  · simp
end Go.Proofs.YtklcildhfcomnaaGreatDoor
