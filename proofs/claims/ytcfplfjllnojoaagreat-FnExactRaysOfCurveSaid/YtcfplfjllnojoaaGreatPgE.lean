/-
  Edges, areas and points of the boundary, of the program and of the model: what the calls return.
  Conditions: the slice reads as the list that is named; coordinates are small where a contract names them.
-/
import Derived.Test.YtcfplfjllnojoaaGreatPgI
import Derived.Test.YtcfplfjllnojoaaGreatGcd
namespace Go.Proofs.YtcfplfjllnojoaaGreat
set_option linter.unusedSimpArgs false
set_option linter.unusedVariables false
open Go.ChangeShapes Go.WideShapes Go.ChangeAt Go.RowKit
open Go.Sort (grow)

/-- Edges as the model makes them, without those that lead nowhere. -/
def edM (l : List Pt) : Nat → List Pt
  | 0 => []
  | k + 1 => if eqB (pd l k) (nxP l k) = true then edM l k else edM l k ++ [edP l k]
theorem edM_len (l : List Pt) : ∀ k, (edM l k).length ≤ k
  | 0 => by simp [edM]
  | k + 1 => by
    have := edM_len l k
    unfold edM
    split
    · omega
    · simp; omega
theorem edM_eq {l : List Pt} (h : pgB l = true) : edM l l.length = edL l := by
  obtain ⟨h1, h2⟩ := (pgB_iff l).1 h
  have hl := ((ptsB_iff l).1 h1).1
  unfold edL
  split
  · next h0 =>
    rw [h0]
    have : nxP l 0 = pd l 0 := by unfold nxP; rw [h0]
    simp [edM, this, eqB]
  · next h0 =>
    have key : ∀ k, k ≤ l.length → edM l k = edT l k := by
      intro k
      induction k with
      | zero => intro _; simp [edM, edT]
      | succ k ih =>
        intro hk
        have hne := nx_ne h2 (by omega) k (by omega)
        rw [edM, if_neg (by rw [eqB_iff]; exact hne), ih (by omega), edT_next]
    exact key _ (Nat.le_refl _)
def arS (l : List Pt) : Nat → Int
  | 0 => 0
  | k + 1 => arS l k + crP (pd l k) (nxP l k)
def arL (l : List Pt) : Int := arS l l.length
theorem cr_sm {u v : Pt} (hu : Sm 1000 u) (hv : Sm 1000 v) : -2000000 ≤ crP u v ∧ crP u v ≤ 2000000 := by
  have := crP_bd hu hv
  unfold crP; omega
theorem arS_bd {l : List Pt} (h : ∀ q ∈ l, Sm 1000 q) : ∀ k, k ≤ l.length → -(2000000 * (k : Int)) ≤ arS l k ∧ arS l k ≤ 2000000 * (k : Int)
  | 0, _ => by simp [arS]
  | k + 1, hk => by
    have ih := arS_bd h k (by omega)
    have := cr_sm (h _ (pd_mem (show k < l.length by omega))) (nx_sm h (by omega) k)
    rw [arS]; omega
theorem crP_ed (l : List Pt) (k : Nat) : crP (pd l k) (edP l k) = crP (pd l k) (nxP l k) := by unfold edP crP dfP; grind
theorem gI_bd (a b : Int) : 0 ≤ gI a b ∧ gI a b ≤ (a.natAbs : Int) + b.natAbs := by
  unfold gI
  refine ⟨by omega, ?_⟩
  by_cases h : b = 0
  · subst h; simp [Int.gcd]
  · have := gI_le (n := a) h
    unfold gI at this; omega
def bnS (E : List Pt) : Nat → Int
  | 0 => 0
  | k + 1 => bnS E k + gI (pd E k).1 (pd E k).2
theorem bnS_bd {E : List Pt} (h : ∀ q ∈ E, Sm 2000 q) : ∀ k, k ≤ E.length → 0 ≤ bnS E k ∧ bnS E k ≤ 4000 * (k : Int)
  | 0, _ => by simp [bnS]
  | k + 1, hk => by
    have ih := bnS_bd h k (by omega)
    have h1 := gI_bd (pd E k).1 (pd E k).2
    have h2 := h _ (pd_mem (show k < E.length by omega))
    unfold Sm at h2
    rw [bnS]; omega
def bnT (l : List Pt) : Int := bnS (edL l) (edL l).length
def bnL (l : List Pt) : Int := if l.length ≤ 2 then (bnT l).tdiv 2 + 1 else bnT l
theorem edL_le (l : List Pt) : (edL l).length ≤ l.length := by
  unfold edL
  split
  · simp
  · rw [edT_len]; exact Nat.le_refl _
theorem bnT_bd {l : List Pt} (h : ∀ q ∈ l, Sm 1000 q) : 0 ≤ bnT l ∧ bnT l ≤ 4000 * (l.length : Int) := by
  have h1 := bnS_bd (edL_sm h) (edL l).length (Nat.le_refl _)
  have h2 := edL_le l
  unfold bnT; omega
theorem bnT_one {l : List Pt} (h : l.length = 1) : bnT l = 0 := by
  unfold bnT edL; rw [if_pos h]; rfl
theorem pg_sm {l : List Pt} (h : pgB l = true) : (∀ q ∈ l, Sm 1000 q) ∧ 1 ≤ l.length ∧ l.length ≤ 40 := by
  obtain ⟨h1, -⟩ := (pgB_iff l).1 h
  have h2 := (ptsB_iff l).1 h1
  exact ⟨fun q hq => (pts_sm h1 q hq).mono (by omega), h2.1, h2.2.1⟩
def daR (l : List Pt) : Int := if pgB l = true then arL l else 0
def bnR (l : List Pt) : Int := if pgB l = true then bnL l else 0
def inL (l : List Pt) : Int := if l.length ≤ 2 then 0 else (arL l - bnL l + 2).tdiv 2
def inR (l : List Pt) : Int := if pgB l = true then inL l else 0
def edR (l : List Pt) : List Pt := if pgB l = true then edL l else []
theorem daR_yes {l : List Pt} (h : pgB l = true) : daR l = arL l := if_pos h
theorem daR_no {l : List Pt} (h : pgB l = false) : daR l = 0 := if_neg (by simp [h])
theorem bnR_yes {l : List Pt} (h : pgB l = true) : bnR l = bnL l := if_pos h
theorem bnR_no {l : List Pt} (h : pgB l = false) : bnR l = 0 := if_neg (by simp [h])
theorem inR_yes {l : List Pt} (h : pgB l = true) : inR l = inL l := if_pos h
theorem inR_no {l : List Pt} (h : pgB l = false) : inR l = 0 := if_neg (by simp [h])
theorem edR_yes {l : List Pt} (h : pgB l = true) : edR l = edL l := if_pos h
theorem edR_no {l : List Pt} (h : pgB l = false) : edR l = [] := if_neg (by simp [h])
def GivesZB (x : Int) (b : Bool) (w : World) (e : Ending) (w' : World) : Prop := e = .returned (.tuple #[.int .i64 x, .bool b]) ∧ Below w.heap.size w w'
theorem givesZB_no {x : Int} {b : Bool} {w w' : World} (h1 : x = 0) (h2 : b = false) (hb : Below w.heap.size w w') : GivesZB x b w (.returned (.tuple #[.int .i64 0, .bool false])) w' := by
  subst h1; subst h2; exact ⟨rfl, hb⟩
theorem givesZB_yes {x y : Int} {b : Bool} {w w' : World} (h1 : x = y) (h2 : b = true) (hb : Below w.heap.size w w') : GivesZB x b w (.returned (.tuple #[.int .i64 y, .bool true])) w' := by
  subst h1; subst h2; exact ⟨rfl, hb⟩
end Go.Proofs.YtcfplfjllnojoaaGreat
/-
  Areas and points of the boundary and inside, of the program and of the model: what the calls return.
  Conditions: the slice reads as the list that is named; coordinates are small where a contract names them.
-/
namespace Go.Proofs.YtcfplfjllnojoaaGreat
set_option linter.unusedSimpArgs false
set_option linter.unusedVariables false
open Go.ChangeShapes Go.WideShapes Go.ChangeAt Go.RowKit
open Go.Sort (grow)

end Go.Proofs.YtcfplfjllnojoaaGreat
