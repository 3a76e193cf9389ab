/-
  Plane polynomials told, in the model and in the laws.
  Condition: the slice reads as the list that is named.
-/
import Derived.Test.YtcfplfjllnojoaaGreatTm
import Derived.Test.YtcfplfjllnojoaaGreatSTerm
namespace Go.Proofs.YtcfplfjllnojoaaGreat
set_option linter.unusedSimpArgs false
set_option linter.unusedVariables false
open Go.ChangeShapes Go.WideShapes Go.ChangeAt Go.RowKit
open Go.Sort (grow)

end Go.Proofs.YtcfplfjllnojoaaGreat
/-
  Values of plane polynomials, the places of their least terms, degrees: what the program's and the model's calls return.
  Condition: the slice reads as the list that is named.
-/
namespace Go.Proofs.YtcfplfjllnojoaaGreat
set_option linter.unusedSimpArgs false
set_option linter.unusedVariables false
open Go.ChangeShapes Go.WideShapes Go.ChangeAt Go.RowKit
open Go.Sort (grow)

theorem one_new_at (w : World) (x : Int) (n : Nat) (hn : n = w.heap.size) : ∀ j u, [Value.int .i64 x][j]? = some u → (w.alloc (.cells #[.int .i64 x] 3)).cell? ((⟨n, 0, none⟩ : Addr).add j) = some u := by
  subst hn
  exact one_new w x
end Go.Proofs.YtcfplfjllnojoaaGreat
/-
  The places of the least terms in the program; degrees: what the calls return.
  Condition: the slice reads as the list that is named.
-/
namespace Go.Proofs.YtcfplfjllnojoaaGreat
set_option linter.unusedSimpArgs false
set_option linter.unusedVariables false
open Go.ChangeShapes Go.WideShapes Go.ChangeAt Go.RowKit
open Go.Sort (grow)

def moreI (a b : Int) : Int := if a < b then b else a
theorem l1MostP_any (a b : Int) (w : World) : Calls Tryz.prog 55 #[.int .i64 a, .int .i64 b] w fun e w' => e = .returned (.int .i64 (moreI a b)) ∧ w = w' := by
  by_cases h : b < a
  · go_enter Tryz.func55, Tryz.ntmps55
    go_wp2
    go_ret
    exact ⟨ret_i64 (by unfold moreI; split <;> omega), rfl⟩
  · go_enter Tryz.func55, Tryz.ntmps55
    go_wp2
    go_ret
    exact ⟨ret_i64 (by unfold moreI; split <;> omega), rfl⟩
end Go.Proofs.YtcfplfjllnojoaaGreat
/-
  Rows of plane polynomials: what the program's and the model's calls return.
  Condition: the slice reads as the list that is named.
-/
namespace Go.Proofs.YtcfplfjllnojoaaGreat
set_option linter.unusedSimpArgs false
set_option linter.unusedVariables false
open Go.ChangeShapes Go.WideShapes Go.ChangeAt Go.RowKit
open Go.Sort (grow)

/-- A term's block, whole. -/
def Bx (w : World) (h : Nat) (t : Tm) : Prop := w.heap[h]? = some (.cells #[.int .i64 t.1, .int .i64 t.2.1, .int .i64 t.2.2] 42 (0, 0))
theorem Bx.new (w : World) (t : Tm) : Bx (w.alloc (.cells #[.int .i64 t.1, .int .i64 t.2.1, .int .i64 t.2.2] 42)) w.heap.size t := heap_alloc_new w _
theorem Bx.lt {w : World} {h : Nat} {t : Tm} (b : Bx w h t) : h < w.heap.size := (Array.getElem?_eq_some_iff.1 b).1
theorem Bx.cells {w : World} {h : Nat} {t : Tm} (b : Bx w h t) : T3 w h t :=
  ⟨cell_of_row w h 0 _ _ (0, 0) b, cell_of_row w h 1 _ _ (0, 0) b, cell_of_row w h 2 _ _ (0, 0) b⟩
theorem Bx.below {w w' : World} {h : Nat} {t : Tm} (b : Bx w h t) (hb : Below w.heap.size w w') : Bx w' h t := (hb.block h b.lt).trans b
theorem Bx.alloc {w : World} {h : Nat} {t : Tm} (b : Bx w h t) (o : Obj) : Bx (w.alloc o) h t := b.below ((Below.refl _ _).alloc (Nat.le_refl _) o)
/-- A row of integers is another block. -/
theorem Bx.ne {w : World} {h : Nat} {t : Tm} (b : Bx w h t) {B n : Nat} {v : Value} {zs : List Value} (r : w.ownsRow B 3 1 v n zs) : some h ≠ v.ownBlock := by
  intro he
  rcases r.2 with ⟨rfl, -⟩ | ⟨g, cap, cur, rfl, -, hg, -⟩
  · cases he
  · simp only [Value.ownBlock, Option.some.injEq] at he
    subst he
    rw [b] at hg
    simp at hg
theorem Bx.grown {w w' : World} {h : Nat} {t : Tm} (b : Bx w h t) {row : Option Nat} (hg : w.grownBy w' row) (hn : some h ≠ row) : Bx w' h t := (hg.block h b.lt hn).trans b
theorem rw_none {l : List Tm} {j : Int} {k : Nat} (h : (td l k).2.1 ≠ j) : rwL l j (k + 1) = rwL l j k := by rw [rwL, if_neg h]
theorem rw_more {l : List Tm} {j : Int} {k i : Nat} (h : (td l k).2.1 = j) (hi : (td l k).1 = i) : rwL l j (k + 1) = rwL l j k ++ List.replicate (i - (rwL l j k).length) 1000000000 ++ [(td l k).2.2] := by rw [rwL, if_pos h, hi]; rfl
theorem rep_snoc (zs : List Int) (m : Nat) (x : Int) : zs ++ List.replicate m x ++ [x] = zs ++ List.replicate (m + 1) x := by rw [List.replicate_succ', List.append_assoc]
def lenVv : Value → Nat
  | .slice _ n _ => n
  | _ => 0
end Go.Proofs.YtcfplfjllnojoaaGreat
