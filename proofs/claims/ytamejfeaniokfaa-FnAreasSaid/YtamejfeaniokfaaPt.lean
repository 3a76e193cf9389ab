/-
  Rows of points.
  No condition.
-/
import Derived.Test.YtamejfeaniokfaaRow
namespace Go.Proofs.Ytamejfeaniokfaa
set_option linter.unusedSimpArgs false
set_option linter.unusedVariables false
open Go.ChangeShapes Go.WideShapes Go.ChangeAt Go.RowKit
open Go.Sort (grow)

abbrev ptV (p : Int × Int) : Value := .agg #[.int .i64 p.1, .int .i64 p.2]
def encP (p : Int × Int) : List Int := [p.1, p.2]
theorem encP_len (p : Int × Int) : (encP p).length = 2 := rfl
/-- The cells of a list of points. -/
def flatP (ps : List (Int × Int)) : List Int := ps.flatMap encP
/-- The point at a place. -/
def pd (ps : List (Int × Int)) (k : Nat) : Int × Int := ps.getD k (0, 0)
theorem pd_eq (ps : List (Int × Int)) (k : Nat) (hk : k < ps.length) : pd ps k = ps[k] := by
  unfold pd; rw [List.getD_eq_getElem?_getD, List.getElem?_eq_getElem hk]; rfl
theorem flatP_len (ps : List (Int × Int)) : (flatP ps).length = ps.length * 2 := flat_len encP_len ps
theorem flatP_gd {ps : List (Int × Int)} {j : Nat} (hj : j < ps.length) : gd (flatP ps) (j * 2) = (pd ps j).1 ∧ gd (flatP ps) (j * 2 + 1) = (pd ps j).2 := by
  have h0 := flat_gd encP_len ps j 0 hj (by omega)
  have h1 := flat_gd encP_len ps j 1 hj (by omega)
  rw [pd_eq ps j hj]
  exact ⟨h0, h1⟩
theorem flatP_snoc (ps : List (Int × Int)) (p : Int × Int) : flatP (ps ++ [p]) = flatP ps ++ encP p := flat_snoc ps p
theorem flatP_of : ∀ (n : Nat) (zs : List Int), zs.length = n * 2 → ∃ ps, ps.length = n ∧ flatP ps = zs
  | 0, [], _ => ⟨[], rfl, rfl⟩
  | n + 1, a :: b :: r, h => by
    obtain ⟨l, h1, h2⟩ := flatP_of n r (by simp at h; omega)
    exact ⟨(a, b) :: l, by simp [h1], by rw [← h2]; rfl⟩
  | 0, _ :: _, h => by simp at h
  | n + 1, [], h => by simp at h <;> omega
  | n + 1, [_], h => by simp at h <;> omega
theorem infoPoint : (Try.prog.info? 35).map (fun i => (i.zero, i.size, i.bytes)) = some (some (.agg #[.int .i64 0, .int .i64 0]), 2, 16) := by kernel_rfl
/-- The slice value v is of this call's own and reads as a list of points. -/
abbrev PtS (w : World) (B : Nat) (v : Value) (ps : List (Int × Int)) : Prop := FS 35 2 w B v ps.length (flatP ps)
def GivesPt (ps : List (Int × Int)) (w : World) (e : Ending) (w' : World) : Prop := ∃ r, e = .returned r ∧ PtS w' w.heap.size r ps ∧ Below w.heap.size w w'
def GivesPtB (ok : Bool) (ps : List (Int × Int)) (w : World) (e : Ending) (w' : World) : Prop := ∃ r, e = .returned (.tuple #[r, .bool ok]) ∧ PtS w' w.heap.size r ps ∧ Below w.heap.size w w'
theorem givesPtB_nil {ok : Bool} {ps : List (Int × Int)} {w w' : World} (h1 : ok = false) (h2 : ps = []) (hb : Below w.heap.size w w') : GivesPtB ok ps w (.returned (.tuple #[.slice none 0 0, .bool false])) w' := by
  subst h1; subst h2; exact ⟨_, rfl, FS.nil_ _ _ _ _, hb⟩
theorem givesPtB_yes {ok : Bool} {ps : List (Int × Int)} {r : Value} {w w' : World} (h1 : ok = true) (h2 : PtS w' w.heap.size r ps) (hb : Below w.heap.size w w') : GivesPtB ok ps w (.returned (.tuple #[r, .bool true])) w' := by
  subst h1; exact ⟨_, rfl, h2, hb⟩
theorem new_cells_at (w : World) (T : TypeId) (cs : Array Value) (n : Nat) (hn : n = w.heap.size) : ∀ j u, cs.toList[j]? = some u → (w.alloc (.cells cs T)).cell? ((⟨n, 0, none⟩ : Addr).add j) = some u := by
  subst hn
  exact new_cells w T cs
end Go.Proofs.Ytamejfeaniokfaa
